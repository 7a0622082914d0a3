import Derived.Test.YtaookoejdnkkoaaGreatDoorQNmKnB
import Derived.Test.YtaookoejdnkkoaaGreatDoorQNmOne
import Derived.Test.YtaookoejdnkkoaaGreatDoorQNmSg
import Derived.Test.YtaookoejdnkkoaaGreatDoorQNmKnV
namespace Go.Proofs.YtaookoejdnkkoaaGreatDoor
open Go.RowKit

/-! NamesKnown: texts. -/
/-- Texts that lie in a row. -/
def StrAt (W : World) (g n : Nat) : Prop := ∀ i, i < n → ∃ S : ByteArray, W.cell? ⟨g, i, none⟩ = some (.string S) ∧ S.size ≤ 1048576
theorem StrAt.below {w w' : World} {g n : Nat} (h : StrAt w g n) (hb : Below w.heap.size w w') : StrAt w' g n := fun i hi => by
  obtain ⟨S, h1, h2⟩ := h i hi
  exact ⟨S, below_cell hb _ _ h1, h2⟩
def txtL (X Y P1 P2 : ByteArray) : List ByteArray :=
  [⟨#[80, 79, 76, 73, 67, 89]⟩,
   ⟨#[112, 111, 108, 105, 99, 121]⟩,
   ⟨#[80, 79, 76, 73, 67, 89, 32]⟩,
   ⟨#[]⟩,
   ⟨#[97, 108, 105, 99, 101]⟩,
   ⟨#[58]⟩,
   ⟨#[97, 58, 98]⟩,
   ⟨#[104, 101, 120, 58, 48, 48]⟩,
   ⟨#[45, 104, 101, 120, 58, 48, 48]⟩,
   ⟨#[45, 98, 97, 115, 101, 54, 52, 58]⟩,
   ⟨#[114, 115, 97, 45, 104, 101, 120]⟩,
   ⟨#[114, 115, 97, 45, 104, 101, 120, 58]⟩,
   ⟨#[114, 115, 97, 45, 104, 101, 120, 58, 48]⟩,
   ⟨#[114, 115, 97, 45, 104, 101, 120, 32, 58]⟩ ++ X,
   ⟨#[114, 115, 97, 32, 104, 101, 120, 58]⟩ ++ X,
   ⟨#[114, 115, 97, 45, 104, 101, 120, 58]⟩ ++ X,
   ⟨#[82, 83, 65, 45, 72, 69, 88, 58]⟩ ++ X,
   ⟨#[114, 115, 97, 45, 98, 97, 115, 101, 54, 52, 58]⟩ ++ Y,
   ⟨#[82, 83, 65, 45, 66, 97, 115, 101, 54, 52, 58]⟩ ++ Y,
   ⟨#[114, 115, 97, 45, 98, 97, 115, 101, 54, 52, 58]⟩ ++ X,
   ⟨#[114, 115, 97, 45, 104, 101, 120, 58]⟩ ++ Y,
   (⟨#[114, 115, 97, 45, 104, 101, 120, 58]⟩ ++ X) ++ ⟨#[48, 48]⟩,
   ⟨#[114, 115, 97, 45, 104, 101, 120, 58]⟩ ++ P1,
   ⟨#[114, 115, 97, 45, 104, 101, 120, 58]⟩ ++ P2,
   ⟨#[114, 115, 97, 45, 104, 101, 120, 58, 32]⟩ ++ X,
   ⟨#[100, 115, 97, 45, 104, 101, 120, 58, 48, 48]⟩,
   ⟨#[100, 115, 97, 45, 72, 69, 88, 58, 122, 122]⟩,
   ⟨#[120, 57, 45, 66, 65, 83, 69, 54, 52, 58]⟩,
   ⟨#[57, 45, 104, 101, 120, 58]⟩,
   ⟨#[114, 115, 97, 45, 115, 104, 97, 45, 104, 101, 120, 58, 48, 48]⟩,
   ⟨#[114, 115, 97, 95, 45, 104, 101, 120, 58, 48, 48]⟩,
   ⟨#[114, 197, 191, 97, 45, 104, 101, 120, 58]⟩ ++ X,
   ⟨#[114, 115, 97, 45, 104, 101, 226, 132, 170, 58]⟩ ++ X,
   ⟨#[114, 115, 97, 45, 104, 101, 120, 58, 51, 48, 48, 54, 48, 50, 48, 49, 48, 53, 48, 50, 48, 49, 48, 51]⟩,
   ⟨#[115, 105, 103, 45, 114, 115, 97, 45, 115, 104, 97, 49, 45, 104, 101, 120, 58, 48, 48]⟩,
   ⟨#[115, 105, 103, 45, 82, 83, 65, 45, 115, 104, 97, 49, 45, 104, 101, 120, 58, 48, 102, 70, 48]⟩,
   ⟨#[115, 105, 103, 45, 114, 115, 97, 45, 115, 104, 97, 49, 45, 98, 97, 115, 101, 54, 52, 58, 84, 81, 61, 61]⟩,
   ⟨#[115, 105, 103, 45, 114, 115, 97, 45, 115, 104, 97, 49, 45, 98, 97, 115, 101, 54, 52, 58, 84, 81, 61]⟩,
   ⟨#[115, 105, 103, 45, 100, 115, 97, 45, 115, 104, 97, 49, 45, 104, 101, 120, 58, 48, 48]⟩,
   ⟨#[115, 105, 103, 45, 114, 115, 97, 45, 109, 100, 53, 45, 104, 101, 120, 58, 48, 48]⟩,
   ⟨#[115, 105, 103, 45, 114, 115, 97, 45, 115, 104, 97, 49, 45, 104, 101, 120]⟩,
   ⟨#[115, 105, 103, 45, 114, 115, 97, 45, 115, 104, 97, 49, 45, 104, 101, 120, 58, 48]⟩,
   ⟨#[115, 105, 103, 45, 114, 115, 97, 45, 115, 104, 97, 49, 45, 104, 101, 120, 58]⟩,
   ⟨#[115, 105, 103, 45, 114, 115, 97, 45, 115, 104, 97, 49, 45, 104, 101, 120, 58, 58, 48, 48]⟩,
   ⟨#[114, 115, 97, 45, 104, 101, 120, 58, 58]⟩ ++ X,
   ⟨#[115, 105, 103, 45, 45, 114, 115, 97, 45, 115, 104, 97, 49, 45, 104, 101, 120, 58, 48, 48]⟩,
   ⟨#[45, 115, 105, 103, 45, 114, 115, 97, 45, 115, 104, 97, 49, 45, 104, 101, 120, 58, 48, 48]⟩,
   ⟨#[115, 105, 103, 45, 114, 115, 97, 45, 115, 104, 97, 49, 45, 45, 104, 101, 120, 58, 48, 48]⟩,
   ⟨#[114, 115, 97, 45, 115, 104, 97, 49, 45, 104, 101, 120, 58, 48, 48]⟩,
   ⟨#[255]⟩,
   ⟨#[97, 0]⟩]
theorem fm_cons {p : ByteArray → Prop} {a : ByteArray} {l : List ByteArray} (h : p a) (t : ∀ x ∈ l, p x) : ∀ x ∈ a :: l, p x := fun x hx => by
  rcases List.mem_cons.1 hx with rfl | hx
  · exact h
  · exact t x hx
theorem app_sz {A B : ByteArray} {n m : Nat} (ha : A.size ≤ n) (hb : B.size ≤ m) : (A ++ B).size ≤ n + m := by rw [ByteArray.size_append]; omega
theorem txt_size {X Y P1 P2 : ByteArray} (hX : X.size ≤ 4096) (hY : Y.size ≤ 4096) (h1 : P1.size ≤ 4096) (h2 : P2.size ≤ 4096) : ∀ S ∈ txtL X Y P1 P2, S.size ≤ 8192 := by
  unfold txtL
  repeat (refine fm_cons (by first | decide | exact Nat.le_trans (app_sz (n := 100) (by decide) (by assumption)) (by decide) | exact Nat.le_trans (app_sz (app_sz (n := 100) (by decide) (by assumption)) (m := 100) (by decide)) (by decide)) ?_)
  intro x hx
  cases hx
theorem strAt_new (w : World) (L : List ByteArray) (n : Nat) (hn : L.length = n) (h : ∀ S ∈ L, S.size ≤ 8192) : StrAt (w.alloc (.cells (L.map Value.string).toArray 9)) w.heap.size n := fun i hi => by
  have hi' : i < L.length := by omega
  refine ⟨L[i], ?_, Nat.le_trans (h _ (List.getElem_mem hi')) (by decide)⟩
  rw [(CL.new w 9 (L.map Value.string)).cell, List.getElem?_map, List.getElem?_eq_getElem hi']
  rfl
def txt4 (X Y : ByteArray) : List ByteArray :=
  [⟨#[114, 115, 97, 45, 104, 101, 120, 58]⟩ ++ X, ⟨#[100, 115, 97, 45, 104, 101, 120, 58, 48, 48]⟩, ⟨#[115, 105, 103, 45, 114, 115, 97, 45, 115, 104, 97, 49, 45, 104, 101, 120, 58, 48, 48]⟩, ⟨#[114, 115, 97, 45, 98, 97, 115, 101, 54, 52, 58]⟩ ++ Y]
theorem txt4_size {X Y : ByteArray} (hX : X.size ≤ 4096) (hY : Y.size ≤ 4096) : ∀ S ∈ txt4 X Y, S.size ≤ 8192 := by
  unfold txt4
  repeat (refine fm_cons (by first | decide | exact Nat.le_trans (app_sz (n := 100) (by decide) (by assumption)) (by decide)) ?_)
  intro x hx
  cases hx
def cs10 : List Nat := [45, 58, 65, 90, 64, 91, 120, 48, 32, 197]
theorem cs10_b (i : Nat) (h : i < cs10.length) : cs10[i] < 256 := by
  have : cs10.all (fun x => decide (x < 256)) = true := by decide
  simpa using List.all_eq_true.1 this cs10[i] (List.getElem_mem h)
theorem u8s_at2 (l : List Nat) (i : Nat) (h : i < l.length) : (u8s l)[i]? = some (.int .u8 (l[i] : Nat)) := by simp [u8s, h]
theorem wrap64_nn (z : Int) : 0 ≤ IntKind.u64.wrap z := by rw [IntKind.wrap_u64]; omega
theorem k_one {w : World} (z1 z2 X Y : Int) (h1 : -9223372036854775808 ≤ z1 ∧ z1 ≤ 9223372036854775807) (h2 : -9223372036854775808 ≤ z2 ∧ z2 ≤ 9223372036854775807) (hX : 0 ≤ X) (hY : 0 ≤ Y) (hH : HT w) (hB : BT w) :
    Calls Tryz.prog 53 #[.int .i64 z1, .int .i64 z2, .int .u64 X, .int .u64 Y] w fun e w' => e = .returned (.bool true) ∧ Below w.heap.size w w' := by
  obtain ⟨x, rfl⟩ : ∃ x : Nat, X = (x : Int) := ⟨X.toNat, by omega⟩
  obtain ⟨y, rfl⟩ : ∃ y : Nat, Y = (y : Int) := ⟨Y.toNat, by omega⟩
  exact namesOne_any z1 z2 x y w h1 h2 hH hB
theorem k_sigs {w : World} {a : Option Addr} {n c : Nat} {b : List Nat} (Y : Int) (h : BW8 w a n c b) (hY : 0 ≤ Y) (hH : HT w) (hB : BT w) :
    Calls Tryz.prog 54 #[.slice a n c, .int .u64 Y] w fun e w' => e = .returned (.bool true) ∧ Below w.heap.size w w' := by
  obtain ⟨y, rfl⟩ : ∃ y : Nat, Y = (y : Int) := ⟨Y.toNat, by omega⟩
  exact namesSigs_any a n c b y w h.1 h.2.1 h.2.2.1 h.2.2.2.1 h.2.2.2.2.1 h.2.2.2.2.2 hH hB
theorem BW8.take {w : World} {a : Option Addr} {l c : Nat} {b : List Nat} (h : BW8 w a l c b) {i : Nat} (hi : i ≤ l) : BW8 w a i c (b.take i) :=
  ⟨by rw [List.length_take, h.1]; omega, Nat.le_trans hi h.2.1, h.2.2.1, h.2.2.2.1, (fun x hx => h.2.2.2.2.1 x (List.mem_of_mem_take hx)), h.2.2.2.2.2.take i⟩
theorem own8_litL {w : World} (l : List Nat) (hb : l.length ≤ 1000) : (w.alloc (.cells (u8s l).toArray 5)).ownsRow w.heap.size 5 1 (.slice (some ⟨w.heap.size, 0, none⟩) l.length l.length) l.length (u8s l) := by
  refine ⟨by simp [u8s], .inr ⟨w.heap.size, l.length, (u8s l).toArray, rfl, Nat.le_refl _, heap_new w _, Nat.le_refl _, Nat.le_trans hb (by decide), by simp [u8s], ?_⟩⟩
  show (u8s l).toArray.toList.take (l.length * 1) = u8s l
  rw [Nat.mul_one]
  exact List.take_of_length_le (by simp [u8s])
theorem conv1 (w : World) (ch : Nat) : (convert 40 9 (.slice (some ⟨w.heap.size, 0, none⟩) 1 1)).run Tryz.prog (w.alloc (.cells #[.int .u8 (ch : Nat)] 5)) = .ok (.string (strN [ch])) (w.alloc (.cells #[.int .u8 (ch : Nat)] 5)) :=
  own_text (own8_litL (w := w) [ch] (by simp)) rfl 9 Tryz.underlying9
theorem cat3 {P T Q : ByteArray} {a b n : Nat} (h1 : P.size = a) (h2 : T.size = 1) (h3 : Q.size = b) (h : a + 1 + b ≤ n) : (P ++ T ++ Q).size ≤ n := by
  rw [ByteArray.size_append, ByteArray.size_append, h1, h2, h3]; exact h
set_option maxHeartbeats 8000000 in
set_option maxRecDepth 100000 in
theorem shown9_any (w : World) (hH : HT w) (hB : BT w) :
    Calls Tryz.prog 24 #[] w fun e w' => e = .returned (.bool true) ∧ Below w.heap.size w w' := by
  have NS := Lib.hid (NE.start hH hB)
  clear hH hB
  go_enter Tryz.func24, Tryz.ntmps24
  go_wp2_with fail
  refine (r8keys _).mono ?_
  rintro e w1 ⟨hb, a, b, c, d, p, q, u, v, rfl, hks⟩
  obtain ⟨vN, vE, oN, oE, hix⟩ := pick4K hks 0 (by decide)
  have hix : ∀ W : World, (Instr.index 51 (.agg #[a, b, c, d, p, q, u, v]) (.int .i64 0)).run Tryz.prog W = .ok (.agg #[vN, vE]) W := hix
  obtain ⟨aN, cN, rfl, rN⟩ := own64.form oN
  obtain ⟨aE, cE, rfl, rE⟩ := own64.form oE
  have hkb := kn_bd 0 (by decide)
  have NS := Lib.hid (NS.out.below hb)
  have HRN := Lib.hid rN
  have HRE := Lib.hid rE
  obtain ⟨nN, hnN⟩ : ∃ n, n = (knL 0).length := ⟨_, rfl⟩
  obtain ⟨nE, hnE⟩ : ∃ n, n = (keL 0).length := ⟨_, rfl⟩
  have HNN := Lib.hid hnN
  have HNE := Lib.hid hnE
  have HKB := Lib.hid hkb
  rw [← hnN, ← hnE] at hix
  clear hb hks oN oE rN rE hkb hnN hnE
  go_wp2_with fail
  refine (rencode_any aN nN cN (knL 0) aE nE cE (keL 0) _ HNN.out.symm (by rw [HNN.out]; have := HKB.out.1.2; omega) HRN.out HKB.out.1.1 HNE.out.symm (by rw [HNE.out]; have := HKB.out.2.2; omega) HRE.out HKB.out.2.1).mono ?_
  rintro e w2 ⟨hb, a3, c3, k3, b3, rfl, ho, hQ⟩
  obtain ⟨rfl, hKW⟩ := KeyW.of (i := 0) (by decide) hQ
  have hll := key_long hKW.key kn0_big
  have hlu := hKW.len.2
  have HBW := Lib.hid (bw_own ho rfl hKW.b8)
  have NS := Lib.hid (NS.out.below hb)
  obtain ⟨l, hl⟩ : ∃ l, l = b3.length := ⟨_, rfl⟩
  rw [← hl] at HBW hll hlu ⊢
  obtain ⟨X, hX⟩ : ∃ X, strN (hexL b3) = X := ⟨_, rfl⟩
  obtain ⟨nx, hnx⟩ : ∃ n, n = 2 * l := ⟨_, rfl⟩
  have hXs : X.size = nx := by rw [← hX, strN_size, hexL_len, HBW.out.1, hnx]
  obtain ⟨Y, hY⟩ : ∃ Y, strN (b64L b3) = Y := ⟨_, rfl⟩
  obtain ⟨ny, hny⟩ : ∃ q, q = (l + 2) / 3 * 4 := ⟨_, rfl⟩
  have hYs : Y.size = ny := by rw [← hY, strN_size, b64L_len, HBW.out.1, hny]
  have hxb : 40 < nx ∧ nx ≤ 2092 := by omega
  have hyb : ny ≤ 2000 := by omega
  have HX := Lib.hid hX
  have HY := Lib.hid hY
  have HXS := Lib.hid hXs
  have HYS := Lib.hid hYs
  clear hb ho hQ hKW hl hX hY hnx hny hix HRN HRE HKB HNN HNE hXs hYs
  go_wp2_with fail
  refine (HBW.out.hex (by omega) HX.out).mono ?_
  rintro e w4 ⟨rfl, hb⟩
  have NS := Lib.hid (NS.out.below hb)
  have HBW := Lib.hid (HBW.out.below hb)
  clear hb
  go_wp2_with fail
  refine (HBW.out.b64 (by omega) HY.out).mono ?_
  rintro e w5 ⟨rfl, hb⟩
  have NS := Lib.hid (NS.out.below hb)
  have HBW := Lib.hid (HBW.out.below hb)
  clear hb
  obtain ⟨nm, hnm⟩ : ∃ m, m = nx - 2 := ⟨_, rfl⟩
  obtain ⟨P1, hP1⟩ : ∃ P, X.extract 2 nx = P := ⟨_, rfl⟩
  obtain ⟨P2, hP2⟩ : ∃ P, X.extract 0 nm = P := ⟨_, rfl⟩
  have s1 : P1.size = nm := by rw [← hP1, ByteArray.size_extract, HXS.out]; omega
  have s2 : P2.size = nm := by rw [← hP2, ByteArray.size_extract, HXS.out]; omega
  have i1 : (2 : Int) ≤ (nx : Int) := by omega
  have i2 : (nm : Int) ≤ (nx : Int) := by omega
  have i3 : IntKind.i64.wrap ((nx : Int) - 2) = (nm : Int) := by rw [show ((nx : Int) - 2) = (nm : Int) by omega]; exact wrap_i64_nat _ (by omega)
  have hXs := HXS.out
  have hYs := HYS.out
  have z1 : ¬ 9223372036854775807 < 8 + nx := by omega
  have z2 : ¬ 9223372036854775807 < 9 + nx := by omega
  have z3 : ¬ 9223372036854775807 < 11 + nx := by omega
  have z4 : ¬ 9223372036854775807 < 10 + nx := by omega
  have z5 : ¬ 9223372036854775807 < 11 + ny := by omega
  have z6 : ¬ 9223372036854775807 < 8 + ny := by omega
  have z7 : ¬ 9223372036854775807 < 8 + nx + 2 := by omega
  have z8 : ¬ 9223372036854775807 < 8 + nm := by omega
  go_upto_region 3 with fail
  clear hnm
  refine wp_region_still_tail 36 (by kernel_rfl) (by kernel_rfl) ?_
  simp only [List.take_succ_cons, List.take_zero, List.drop_succ_cons, List.drop_zero]
  repeat (refine wpStill_put rfl (by go_simp; first | done | rfl | exact ⟨rfl, rfl⟩) ?_; simp only [Act.put, List.setIfInBounds_toArray, List.set_cons_zero, List.set_cons_succ])
  refine wpStill_nil ?_
  change wpList _ _ _ _ _ w5.drew
  have NS := Lib.hid (NS.out.below (Below.refl _ _).drew)
  have HBW := Lib.hid (HBW.out.below (Below.refl _ _).drew)
  generalize w5.drew = w6 at *
  have HST : Hid (StrAt (w6.alloc (.cells ((txtL X Y P1 P2).map Value.string).toArray 9)) w6.heap.size 51) := strAt_new w6 _ 51 rfl (txt_size (by omega) (by omega) (by omega) (by omega))
  have hal : Below w6.heap.size w6 (w6.alloc (.cells ((txtL X Y P1 P2).map Value.string).toArray 9)) := (Below.refl _ _).alloc (Nat.le_refl _) _
  have NS := Lib.hid (NS.out.below hal)
  have HBW := Lib.hid (HBW.out.below hal)
  clear hal i1 i2 i3 z1 z2 z3 z4 z5 z6 z7 z8 s1 s2 hP1 hP2 hXs hYs
  go_wp2
  generalize hg7 : w6.heap.size = g7 at *
  clear hg7
  go_loopw [6] (fun iv wr => ∃ i : Nat, i ≤ 51 ∧ iv = .int .i64 (i : Nat) ∧ Hid (StrAt wr g7 51) ∧ Hid (NE w [] [] wr) ∧ Hid (BW8 wr a3 l c3 b3)) (fun iv _ => 51 - (intOf iv).toNat)
  case atStart => exact ⟨0, Nat.zero_le _, rfl, HST.out, NS.out, HBW.out⟩
  case round =>
    clear HST NS HBW
    obtain ⟨i, hi, rfl, HST, NS, HBW⟩ := hrel
    by_cases hin : i < 51
    · have hq1 : decide ((i : Int) < 51) = true := decide_eq_true (by omega)
      obtain ⟨j, hj⟩ : ∃ j, j = (i * 5 + 1) % 51 := ⟨_, rfl⟩
      have e1 : IntKind.i64.wrap ((i : Int) * 5) = (i : Int) * 5 := by rw [show ((i : Int) * 5) = ((i * 5 : Nat) : Int) by omega]; exact wrap_i64_nat _ (by omega)
      have e2 : IntKind.i64.wrap ((i : Int) * 5 + 1) = (i : Int) * 5 + 1 := by rw [show ((i : Int) * 5 + 1) = ((i * 5 + 1 : Nat) : Int) by omega]; exact wrap_i64_nat _ (by omega)
      have e3 : ((i : Int) * 5 + 1).tmod 51 = (j : Int) := by rw [Int.tmod_eq_emod_of_nonneg (by omega)]; omega
      have e4 : IntKind.i64.wrap (j : Int) = (j : Int) := wrap_i64_nat _ (by omega)
      have c1 : (0 : Int) ≤ (i : Int) := by omega
      have c2 : (i : Int) < 51 := by omega
      have c3' : (0 : Int) ≤ (j : Int) := by omega
      have c4 : (j : Int) < 51 := by omega
      obtain ⟨A, hA, hAs⟩ := HST.out i hin
      obtain ⟨B, hBc, hBs⟩ := HST.out j (by omega)
      have HAs := Lib.hid hAs
      have HBs := Lib.hid hBs
      have HA := Lib.hid hA
      have HBc := Lib.hid hBc
      clear hj hAs hBs hA hBc
      go_upto_region 7 with fail
      have b0 := (Below.refl wr.heap.size wr).drew
      have NS := Lib.hid (NS.out.below b0)
      have HBW := Lib.hid (HBW.out.below b0)
      have HST := Lib.hid (HST.out.below b0)
      have HA := Lib.hid (below_cell b0 _ _ HA.out)
      have HBc := Lib.hid (below_cell b0 _ _ HBc.out)
      clear b0
      go_region_held3 (fun W => W.cell? ⟨g7, i, none⟩ = some (.string A) ∧ W.cell? ⟨g7, j, none⟩ = some (.string B))
        (first | exact ⟨HA.out, HBc.out⟩)
        (first
          | (go_at_call 4; (with_reducible refine (namesTell_any A B _ (Nat.le_trans HAs.out (by decide)) (Nat.le_trans HBs.out (by decide)) NS.out.hh NS.out.bb).mono ?_)
             rintro e w13 ⟨rfl, hb⟩
             have NS := Lib.hid (NS.out.below hb)
             have HBW := Lib.hid (HBW.out.below hb)
             have HST := Lib.hid (HST.out.below hb)
             have HA := Lib.hid (below_cell hb _ _ HA.out)
             have HBc := Lib.hid (below_cell hb _ _ HBc.out)
             clear hb)
          | (go_at_call 5; (with_reducible refine (namesSigned_any A _ (Nat.le_trans HAs.out (by decide)) NS.out.hh NS.out.bb).mono ?_)
             rintro e w14 ⟨rfl, hb⟩
             have NS := Lib.hid (NS.out.below hb)
             have HBW := Lib.hid (HBW.out.below hb)
             have HST := Lib.hid (HST.out.below hb)
             have HA := Lib.hid (below_cell hb _ _ HA.out)
             have HBc := Lib.hid (below_cell hb _ _ HBc.out)
             clear hb)
          | (go_at_call 52; (with_reducible refine (namesOnce_any A _ (Nat.le_trans HAs.out (by decide)) NS.out.hh NS.out.bb).mono ?_)
             rintro e w15 ⟨rfl, hb⟩
             have NS := Lib.hid (NS.out.below hb)
             have HBW := Lib.hid (HBW.out.below hb)
             have HST := Lib.hid (HST.out.below hb)
             have HA := Lib.hid (below_cell hb _ _ HA.out)
             have HBc := Lib.hid (below_cell hb _ _ HBc.out)
             clear hb))
      all_goals
        clear HA HBc
        go_wp2
        go_roundw
        case rel => exact ⟨i + 1, by omega, by go_num, HST.out, NS.out, HBW.out⟩
        case measure => simp [intOf]; omega
    · have hq1 : decide ((i : Int) < 51) = false := decide_eq_false (by omega)
      clear HST
      have hXs := HXS.out
      have hYs := HYS.out
      have z1 : ¬ 9223372036854775807 < 8 + nx := by omega
      have z5 : ¬ 9223372036854775807 < 11 + ny := by omega
      have HST : Hid (StrAt (wr.alloc (.cells ((txt4 X Y).map Value.string).toArray 9)) wr.heap.size 4) := strAt_new wr _ 4 rfl (txt4_size (by omega) (by omega))
      have hal : Below wr.heap.size wr (wr.alloc (.cells ((txt4 X Y).map Value.string).toArray 9)) := (Below.refl _ _).alloc (Nat.le_refl _) _
      have NS := Lib.hid (NS.out.below hal)
      have HBW := Lib.hid (HBW.out.below hal)
      clear hal
      go_wp2
      clear hXs hYs z1 z5 hq1 hin hi
      generalize hg8 : wr.heap.size = g8 at *
      clear hg8
      go_loopw [104] (fun iv wr => ∃ m : Nat, m ≤ 4 ∧ iv = .int .i64 (m : Nat) ∧ Hid (StrAt wr g8 4) ∧ Hid (NE w [] [] wr) ∧ Hid (BW8 wr a3 l c3 b3)) (fun iv _ => 4 - (intOf iv).toNat)
      case atStart => exact ⟨0, Nat.zero_le _, rfl, HST.out, NS.out, HBW.out⟩
      case round =>
        clear HST NS HBW
        obtain ⟨m, hm, rfl, HST, NS, HBW⟩ := hrel
        by_cases hmn : m < 4
        · have hq1 : decide ((m : Int) < 4) = true := decide_eq_true (by omega)
          obtain ⟨S, hS, hSs⟩ := HST.out m hmn
          obtain ⟨n, hn⟩ : ∃ n, n = S.size := ⟨_, rfl⟩
          have hsn : S.size = n := hn.symm
          have hnb : n ≤ 1048576 := by omega
          have HSN := Lib.hid hsn
          clear hSs hn
          go_wp2
          clear hq1 hS
          go_loopw [9] (fun iv wr => ∃ i : Nat, i ≤ n ∧ iv = .int .i64 (i : Nat) ∧ Hid (StrAt wr g8 4) ∧ Hid (NE w [] [] wr) ∧ Hid (BW8 wr a3 l c3 b3)) (fun iv _ => n - (intOf iv).toNat)
          case atStart => exact ⟨0, Nat.zero_le _, rfl, HST.out, NS.out, HBW.out⟩
          case round =>
            clear HST NS HBW
            obtain ⟨i, hi, rfl, HST, NS, HBW⟩ := hrel
            by_cases hc : i < 22 ∧ i < n
            · have hq1 : decide ((i : Int) < 22) = true := decide_eq_true (by omega)
              have hq2 : decide ((i : Int) < (n : Int)) = true := decide_eq_true (by omega)
              obtain ⟨wq, hwq⟩ : ∃ W, W = wr := ⟨_, rfl⟩
              rw [← hwq] at HST NS HBW ⊢
              clear hwq
              have HC : Hid (CL (wq.alloc (.cells (u8s cs10).toArray 5)) 5 wq.heap.size (u8s cs10)) := CL.new wq _ _
              have hal : Below wq.heap.size wq (wq.alloc (.cells (u8s cs10).toArray 5)) := (Below.refl _ _).alloc (Nat.le_refl _) _
              have NS := Lib.hid (NS.out.below hal)
              have HBW := Lib.hid (HBW.out.below hal)
              have HST := Lib.hid (HST.out.below hal)
              clear hal
              go_wp2
              generalize hg9 : wq.heap.size = g9 at *
              clear hg9 hq1 hq2
              go_loopw [120] (fun iv wr => ∃ k : Nat, k ≤ 10 ∧ iv = .int .i64 (k : Nat) ∧ Hid (CL wr 5 g9 (u8s cs10)) ∧ Hid (StrAt wr g8 4) ∧ Hid (NE w [] [] wr) ∧ Hid (BW8 wr a3 l c3 b3)) (fun iv _ => 10 - (intOf iv).toNat)
              case atStart => exact ⟨0, Nat.zero_le _, rfl, HC.out, HST.out, NS.out, HBW.out⟩
              case round =>
                clear HC HST NS HBW
                obtain ⟨k, hk, rfl, HC, HST, NS, HBW⟩ := hrel
                obtain ⟨wk, hwk⟩ : ∃ W, W = wr := ⟨_, rfl⟩
                rw [← hwk] at HC HST NS HBW ⊢
                clear hwk
                by_cases hkn : k < 10
                · have hq3 : decide ((k : Int) < 10) = true := decide_eq_true (by omega)
                  have hcl : wk.cell? ⟨g9, k, none⟩ = some (.int .u8 (cs10[k] : Nat)) := by rw [HC.out.cell]; exact u8s_at2 _ _ hkn
                  have hcb := cs10_b k hkn
                  generalize cs10[k] = ch at hcl hcb
                  have c1 : (0 : Int) ≤ (k : Int) := by omega
                  have c2 : (k : Int) < 10 := by omega
                  obtain ⟨t, ht⟩ : ∃ t, t = i + k := ⟨_, rfl⟩
                  have e1 : IntKind.i64.wrap ((i : Int) + (k : Int)) = (t : Int) := by rw [show ((i : Int) + (k : Int)) = (t : Int) by omega]; exact wrap_i64_nat _ (by omega)
                  have e1' : (i : Int) + (k : Int) = (t : Int) := by omega
                  have e2 : (t : Int).tmod 2 = ((t % 2 : Nat) : Int) := by rw [Int.tmod_eq_emod_of_nonneg (by omega)]; omega
                  clear ht
                  rcases (show t % 2 = 1 ∨ t % 2 = 0 by omega) with hr | hr
                  · rw [hr] at e2
                    have e3 : ((1 : Int) != 0) = true := rfl
                    clear hr
                    go_wp2
                    go_roundw
                    case rel => exact ⟨k + 1, by omega, by go_num, HC.out, HST.out, NS.out, HBW.out⟩
                    case measure => simp [intOf]; omega
                  · rw [hr] at e2
                    clear hr
                    have hcv := conv1 wk ch
                    obtain ⟨TT, hTT⟩ : ∃ T, strN [ch] = T := ⟨_, rfl⟩
                    have HTT : Hid (TT.size = 1) := by show _ = _; rw [← hTT, strN_size]; rfl
                    rw [hTT] at hcv
                    have hal : Below wk.heap.size wk (wk.alloc (.cells #[.int .u8 (ch : Nat)] 5)) := (Below.refl _ _).alloc (Nat.le_refl _) _
                    have NS := Lib.hid (NS.out.below hal)
                    have HBW := Lib.hid (HBW.out.below hal)
                    have HST := Lib.hid (HST.out.below hal)
                    have HC := Lib.hid (HC.out.below hal)
                    clear hal hTT hcb
                    go_upto_region 20 with fail
                    generalize wk.alloc (.cells #[.int .u8 (ch : Nat)] 5) = W9 at *
                    clear hcl hcv e1 e1' e2 c1 c2 hq3
                    obtain ⟨P, hP⟩ : ∃ P, S.extract 0 i = P := ⟨_, rfl⟩
                    obtain ⟨Q1, hQ1⟩ : ∃ P, S.extract (i + 1) n = P := ⟨_, rfl⟩
                    obtain ⟨Q0, hQ0⟩ : ∃ P, S.extract i n = P := ⟨_, rfl⟩
                    have sP : P.size = i := by rw [← hP, ByteArray.size_extract, HSN.out]; omega
                    have sQ1 : Q1.size = n - (i + 1) := by rw [← hQ1, ByteArray.size_extract, HSN.out]; omega
                    have sQ0 : Q0.size = n - i := by rw [← hQ0, ByteArray.size_extract, HSN.out]; omega
                    have sT := HTT.out
                    have y1 : ¬ 9223372036854775807 < P.size + TT.size := by omega
                    have y2 : ¬ 9223372036854775807 < P.size + TT.size + Q1.size := by omega
                    have y3 : ¬ 9223372036854775807 < P.size + TT.size + Q0.size := by omega
                    have T1 : Hid ((P ++ TT ++ Q1).size ≤ 9223372036854775807) := cat3 sP sT sQ1 (by omega)
                    have T0 : Hid ((P ++ TT ++ Q0).size ≤ 9223372036854775807) := cat3 sP sT sQ0 (by omega)
                    have TS : Hid (S.size ≤ 9223372036854775807) := by show _ ≤ _; omega
                    have e5 : IntKind.i64.wrap ((i : Int) + 1) = (i : Int) + 1 := by rw [show ((i : Int) + 1) = ((i + 1 : Nat) : Int) by omega]; exact wrap_i64_nat _ (by omega)
                    have c1 : (0 : Int) ≤ (i : Int) := by omega
                    have c2 : (i : Int) ≤ (n : Int) := by omega
                    have c3' : (0 : Int) ≤ (i : Int) + 1 := by omega
                    have c4 : (i : Int) + 1 ≤ (n : Int) := by omega
                    have b0 := (Below.refl W9.heap.size W9).drew
                    have NS := Lib.hid (NS.out.below b0)
                    have HBW := Lib.hid (HBW.out.below b0)
                    have HST := Lib.hid (HST.out.below b0)
                    have HC := Lib.hid (HC.out.below b0)
                    clear b0 sP sQ1 sQ0 sT
                    go_region_held3 (fun W => True)
                      (trivial)
                      (first
                        | (go_at_call 4; (with_reducible refine (namesTell_any (P ++ TT ++ Q1) S _ T1.out TS.out NS.out.hh NS.out.bb).mono ?_)
                           rintro e w14 ⟨rfl, hb⟩
                           have NS := Lib.hid (NS.out.below hb)
                           have HBW := Lib.hid (HBW.out.below hb)
                           have HST := Lib.hid (HST.out.below hb)
                           have HC := Lib.hid (HC.out.below hb)
                           clear hb)
                        | (go_at_call 4; (with_reducible refine (namesTell_any (P ++ TT ++ Q0) S _ T0.out TS.out NS.out.hh NS.out.bb).mono ?_)
                           rintro e w14 ⟨rfl, hb⟩
                           have NS := Lib.hid (NS.out.below hb)
                           have HBW := Lib.hid (HBW.out.below hb)
                           have HST := Lib.hid (HST.out.below hb)
                           have HC := Lib.hid (HC.out.below hb)
                           clear hb)
                        | (go_at_call 5; (with_reducible refine (namesSigned_any (P ++ TT ++ Q1) _ T1.out NS.out.hh NS.out.bb).mono ?_)
                           rintro e w14 ⟨rfl, hb⟩
                           have NS := Lib.hid (NS.out.below hb)
                           have HBW := Lib.hid (HBW.out.below hb)
                           have HST := Lib.hid (HST.out.below hb)
                           have HC := Lib.hid (HC.out.below hb)
                           clear hb))
                    all_goals
                      clear y1 y2 y3 e5 c1 c2 c3' c4
                      go_wp2
                      go_roundw
                      case rel => exact ⟨k + 1, by omega, by go_num, HC.out, HST.out, NS.out, HBW.out⟩
                      case measure => simp [intOf]; omega
                · have hq3 : decide ((k : Int) < 10) = false := decide_eq_false (by omega)
                  clear HC
                  go_wp2
                  go_roundw
                  case rel => exact ⟨i + 1, by omega, by go_num, HST.out, NS.out, HBW.out⟩
                  case measure => simp [intOf]; omega
            · by_cases h22 : i < 22
              · have hq1 : decide ((i : Int) < 22) = true := decide_eq_true (by omega)
                have hq2 : decide ((i : Int) < (n : Int)) = false := decide_eq_false (by omega)
                go_wp2
                go_roundw
                case rel => exact ⟨m + 1, by omega, by go_num, HST.out, NS.out, HBW.out⟩
                case measure => simp [intOf]; omega
              · have hq1 : decide ((i : Int) < 22) = false := decide_eq_false (by omega)
                go_wp2
                go_roundw
                case rel => exact ⟨m + 1, by omega, by go_num, HST.out, NS.out, HBW.out⟩
                case measure => simp [intOf]; omega
        · have hq1 : decide ((m : Int) < 4) = false := decide_eq_false (by omega)
          clear HST
          obtain ⟨ab, ao, ea⟩ := HBW.out.2.2.2.2.2.isAt (by rw [HBW.out.1]; omega)
          subst ea
          have hlc := HBW.out.2.1
          go_wp2
          clear hq1
          go_loopw [13] (fun iv wr => ∃ i : Nat, i ≤ 16 ∧ iv = .int .i64 (i : Nat) ∧ Hid (NE w [] [] wr) ∧ Hid (BW8 wr (some ⟨ab, ao, none⟩) l c3 b3)) (fun iv _ => 16 - (intOf iv).toNat)
          case atStart => exact ⟨0, Nat.zero_le _, rfl, NS.out, HBW.out⟩
          case round =>
            clear NS HBW
            obtain ⟨i, hi, rfl, NS, HBW⟩ := hrel
            obtain ⟨wk, hwk⟩ : ∃ W, W = wr := ⟨_, rfl⟩
            rw [← hwk] at NS HBW ⊢
            clear hwk
            by_cases hin : i < 16
            · have hq1 : decide ((i : Int) < 16) = true := decide_eq_true (by omega)
              obtain ⟨q4, hq4⟩ : ∃ q, q = i / 4 := ⟨_, rfl⟩
              have d1 : (i : Int).tdiv 4 = (q4 : Int) := by rw [Int.tdiv_eq_ediv_of_nonneg (by omega)]; omega
              have d2 : IntKind.i64.wrap (q4 : Int) = (q4 : Int) := wrap_i64_nat _ (by omega)
              have q4b : -9223372036854775808 ≤ (q4 : Int) ∧ (q4 : Int) ≤ 9223372036854775807 := by omega
              have ib : -9223372036854775808 ≤ (i : Int) ∧ (i : Int) ≤ 9223372036854775807 := by omega
              obtain ⟨s3, hs3⟩ : ∃ s, s = 3 * i := ⟨_, rfl⟩
              have d3 : 3 * (i : Int) = (s3 : Int) := by omega
              have d4 : IntKind.i64.wrap (s3 : Int) = (s3 : Int) := wrap_i64_nat _ (by omega)
              have d5 : IntKind.u64.wrap (i : Int) = (i : Int) := by rw [IntKind.wrap_u64]; omega
              have c1 : (0 : Int) ≤ (i : Int) := by omega
              have c2 : (i : Int) ≤ (c3 : Int) := by omega
              have c3' : (0 : Int) ≤ (s3 : Int) := by omega
              have c4 : decide ((s3 : Int) < 0) = false := decide_eq_false (by omega)
              have HBT := Lib.hid (HBW.out.take (i := i) (by omega))
              clear hs3 hq4
              go_upto_region 27 with fail
              have b0 := (Below.refl wk.heap.size wk).drew
              have NS := Lib.hid (NS.out.below b0)
              have HBW := Lib.hid (HBW.out.below b0)
              have HBT := Lib.hid (HBT.out.below b0)
              clear b0 hq1
              go_region_held3 (fun W => True)
                (trivial)
                (first
                  | (go_at_call 53; (with_reducible refine (k_one _ _ _ _ ib q4b (wrap64_nn _) (by decide) NS.out.hh NS.out.bb).mono ?_)
                     rintro e w14 ⟨rfl, hb⟩
                     have NS := Lib.hid (NS.out.below hb)
                     have HBW := Lib.hid (HBW.out.below hb)
                     have HBT := Lib.hid (HBT.out.below hb)
                     clear hb)
                  | (go_at_call 54; (with_reducible refine (k_sigs _ HBT.out (wrap64_nn _) NS.out.hh NS.out.bb).mono ?_)
                     rintro e w14 ⟨rfl, hb⟩
                     have NS := Lib.hid (NS.out.below hb)
                     have HBW := Lib.hid (HBW.out.below hb)
                     have HBT := Lib.hid (HBT.out.below hb)
                     clear hb))
              all_goals
                clear d1 d2 d3 d4 d5 c1 c2 c3' c4 q4b ib
                go_wp2
                go_roundw
                case rel => exact ⟨i + 1, by omega, by go_num, NS.out, HBW.out⟩
                case measure => simp [intOf]; omega
            · have hq1 : decide ((i : Int) < 16) = false := decide_eq_false (by omega)
              go_wp2_with fail
              refine (works9 _ NS.out.hh NS.out.bb).mono ?_
              rintro e w14 ⟨rfl, hb⟩
              have NS := Lib.hid (NS.out.below hb)
              clear hb
              go_wp2
              go_ret
              exact ⟨rfl, NS.out.bl⟩
end Go.Proofs.YtaookoejdnkkoaaGreatDoor
