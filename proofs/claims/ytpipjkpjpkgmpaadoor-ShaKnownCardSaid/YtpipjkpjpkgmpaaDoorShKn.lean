import Derived.Test.YtpipjkpjpkgmpaaDoorShR
import Derived.Test.YtpipjkpjpkgmpaaDoorShW
import Derived.Test.YtpipjkpjpkgmpaaDoorShX
import Derived.Test.YtpipjkpjpkgmpaaDoorShZZ
import Derived.Test.YtpipjkpjpkgmpaaDoorShPc
import Derived.OrdersHeld
import Derived.Lib.ConvBytes
namespace Go.Proofs.YtpipjkpjpkgmpaaDoor
open Go.RowKit

def sampleB : List Nat := [97, 98, 99, 100, 98, 99, 100, 101, 99, 100, 101, 102, 100, 101, 102, 103, 101, 102, 103, 104, 102, 103, 104, 105, 103, 104, 105, 106, 104, 105, 106, 107, 105, 106, 107, 108, 106, 107, 108, 109, 107, 108, 109, 110, 108, 109, 110, 111, 109, 110, 111, 112, 110, 111, 112, 113]
def sampleS : ByteArray := ⟨#[97, 98, 99, 100, 98, 99, 100, 101, 99, 100, 101, 102, 100, 101, 102, 103, 101, 102, 103, 104, 102, 103, 104, 105, 103, 104, 105, 106, 104, 105, 106, 107, 105, 106, 107, 108, 106, 107, 108, 109, 107, 108, 109, 110, 108, 109, 110, 111, 109, 110, 111, 112, 110, 111, 112, 113]⟩
/-- A text as bytes. -/
theorem conv_bytesS (w : World) (s : ByteArray) : ∃ cap w', (∀ dst, Tryd.prog.underlying dst = some (.slice 5) → (convert 9 dst (.string s)).run Tryd.prog w = .ok (.slice (some ⟨w.heap.size, 0, none⟩) s.size cap) w') ∧ s.size ≤ cap ∧ Rd .u8 w' (some ⟨w.heap.size, 0, none⟩) (s.data.toList.map UInt8.toNat) ∧ Below w.heap.size w w' := by
  refine ⟨grownCap w s.size 0 5, Lib.bytesWorld w 5 s, fun dst hd => Lib.run_convert_string_bytes w 9 dst 5 s Tryd.underlying9 hd Tryd.underlying5, grownCap_ge _ _ _ _, fun j hj => ⟨_, 0, rfl, fun i hi => ?_⟩, ⟨?_, ?_, ?_, ?_, fun i hi => Lib.bytesWorld_at_old w 5 s i hi⟩⟩
  · have hi2 : i < s.size := by simpa using hi
    rw [Nat.zero_add, Lib.bytesWorld_cell w 5 s i hi2]
    simp [List.getD, hi2]
  · unfold Lib.bytesWorld World.freeze; split <;> rfl
  · unfold Lib.bytesWorld World.freeze; split <;> rfl
  · unfold Lib.bytesWorld World.freeze; split <;> rfl
  · rw [Lib.bytesWorld_size]; omega
def words64 : List Nat := [4294967295, 4294967296, 2305843009213693951, 2305843009213693952, 2305843009213694007, 2305843009213694008, 9223372036854775807, 9223372036854775808, 18446744073709551615, 18446744073709551607]
theorem words64_lt : ∀ x ∈ words64, x < 18446744073709551616 := by
  have : words64.all (fun x => decide (x < 18446744073709551616)) = true := by rfl
  intro x hx
  simpa using List.all_eq_true.1 this x hx
set_option maxRecDepth 100000 in
theorem sum_none : (shaC [])[0]? = some (.int .u8 218) ∧ (shaC [])[19]? = some (.int .u8 9) := by
  have h : (bytes20 (sha5 []))[0]? = some 218 ∧ (bytes20 (sha5 []))[19]? = some 9 := by decide +kernel
  exact ⟨by rw [shaC, bcells, List.getElem?_map, h.1]; rfl, by rw [shaC, bcells, List.getElem?_map, h.2]; rfl⟩
set_option maxRecDepth 100000 in
theorem sum_sample : (shaC sampleB)[0]? = some (.int .u8 132) ∧ (shaC sampleB)[1]? = some (.int .u8 152) ∧ (shaC sampleB)[19]? = some (.int .u8 241) := by
  have h : (bytes20 (sha5 sampleB))[0]? = some 132 ∧ (bytes20 (sha5 sampleB))[1]? = some 152 ∧ (bytes20 (sha5 sampleB))[19]? = some 241 := by decide +kernel
  exact ⟨by rw [shaC, bcells, List.getElem?_map, h.1]; rfl, by rw [shaC, bcells, List.getElem?_map, h.2.1]; rfl, by rw [shaC, bcells, List.getElem?_map, h.2.2]; rfl⟩

/-- A script's cells. -/
def stepCells (S : List (Int × Value)) : List Value := S.flatMap fun x => [.int .i64 x.1, x.2]
theorem stepCells_at : ∀ (S : List (Int × Value)) (i : Nat) (h : i < S.length), (stepCells S)[i * 2]? = some (.int .i64 S[i].1) ∧ (stepCells S)[i * 2 + 1]? = some S[i].2
  | x :: S, 0, _ => ⟨rfl, rfl⟩
  | x :: S, i + 1, h => by
    have ih := stepCells_at S i (by simpa using h)
    have e : stepCells (x :: S) = .int .i64 x.1 :: x.2 :: stepCells S := rfl
    rw [e, show (i + 1) * 2 = i * 2 + 1 + 1 by omega]
    exact ih
theorem steps_of {W : World} {T g : Nat} {S : List (Int × Value)} (hc : CB W T g (stepCells S)) (hv : ∀ x ∈ S, ∃ aa n c xs, x.2 = .slice aa n c ∧ xs.length = n ∧ n ≤ c ∧ c ≤ 9223372036854775807 ∧ (aa = none → c = 0) ∧ (∀ y ∈ xs, y < 256) ∧ Rd .u8 W aa xs) : Steps W (some ⟨g, 0, none⟩) S.length := by
  refine fun _ => ⟨g, 0, rfl, fun i hi => ?_⟩
  obtain ⟨aa, n, c, xs, e, h⟩ := hv S[i] (List.getElem_mem hi)
  have h2 := stepCells_at S i hi
  refine ⟨S[i].1, aa, n, c, xs, ?_, ?_, h⟩
  · rw [hc.cell, Nat.zero_add]; exact h2.1
  · rw [hc.cell, Nat.zero_add]; rw [h2.2, e]

/-- The script that ShaKnown lays. -/
def scriptK (G i : Nat) : List (Int × Value) :=
  [(0, .slice (some ⟨G, 0, none⟩) i 200), (1, .slice none 0 0), (3, .slice none 0 0), (0, .slice (some ⟨G, i, none⟩) (200 - i) (200 - i)), (3, .slice none 0 0), (0, .slice (some ⟨G, 0, none⟩) i 200), (1, .slice none 0 0), (2, .slice none 0 0), (1, .slice none 0 0), (0, .slice (some ⟨G, 0, none⟩) 200 200)]
theorem script_rows {W : World} {G i : Nat} {zs : List Nat} (h1 : Rd .u8 W (some ⟨G, 0, none⟩) zs) (h2 : Rd .u8 W (some ⟨G, 0, none⟩) (zs.take i)) (h3 : Rd .u8 W (some ⟨G, i, none⟩) (zs.drop i)) (hz : zs.length = 200) (h8 : ∀ x ∈ zs, x < 256) (hi : i ≤ 200) :
    ∀ x ∈ scriptK G i, ∃ aa n c xs, x.2 = .slice aa n c ∧ xs.length = n ∧ n ≤ c ∧ c ≤ 9223372036854775807 ∧ (aa = none → c = 0) ∧ (∀ y ∈ xs, y < 256) ∧ Rd .u8 W aa xs := by
  have n0 : ∃ aa n c xs, Value.slice none 0 0 = .slice aa n c ∧ xs.length = n ∧ n ≤ c ∧ c ≤ 9223372036854775807 ∧ (aa = none → c = 0) ∧ (∀ y ∈ xs, y < 256) ∧ Rd .u8 W aa xs := ⟨none, 0, 0, [], rfl, rfl, Nat.le_refl _, by decide, fun _ => rfl, (fun y hy => by cases hy), fun j hj => by cases hj⟩
  have a0 : ∃ aa n c xs, Value.slice (some ⟨G, 0, none⟩) i 200 = .slice aa n c ∧ xs.length = n ∧ n ≤ c ∧ c ≤ 9223372036854775807 ∧ (aa = none → c = 0) ∧ (∀ y ∈ xs, y < 256) ∧ Rd .u8 W aa xs := ⟨_, _, _, zs.take i, rfl, by rw [List.length_take]; omega, hi, by decide, (fun h => by cases h), (fun y hy => h8 y (List.mem_of_mem_take hy)), h2⟩
  have b0 : ∃ aa n c xs, Value.slice (some ⟨G, i, none⟩) (200 - i) (200 - i) = .slice aa n c ∧ xs.length = n ∧ n ≤ c ∧ c ≤ 9223372036854775807 ∧ (aa = none → c = 0) ∧ (∀ y ∈ xs, y < 256) ∧ Rd .u8 W aa xs := ⟨_, _, _, zs.drop i, rfl, by rw [List.length_drop, hz], Nat.le_refl _, by omega, (fun h => by cases h), (fun y hy => h8 y (List.mem_of_mem_drop hy)), h3⟩
  have c0 : ∃ aa n c xs, Value.slice (some ⟨G, 0, none⟩) 200 200 = .slice aa n c ∧ xs.length = n ∧ n ≤ c ∧ c ≤ 9223372036854775807 ∧ (aa = none → c = 0) ∧ (∀ y ∈ xs, y < 256) ∧ Rd .u8 W aa xs := ⟨_, _, _, zs, rfl, hz, Nat.le_refl _, by decide, (fun h => by cases h), h8, h1⟩
  intro x hx
  simp only [scriptK, List.mem_cons, List.mem_nil_iff, or_false] at hx
  rcases hx with rfl | rfl | rfl | rfl | rfl | rfl | rfl | rfl | rfl | rfl
  · exact a0
  · exact n0
  · exact n0
  · exact b0
  · exact n0
  · exact a0
  · exact n0
  · exact n0
  · exact n0
  · exact c0

set_option maxHeartbeats 2000000 in
set_option maxRecDepth 100000 in
theorem shaKnown_any (w : World) (hF : Five w) :
    Calls Tryd.prog 4 #[] w fun e w' => e = .returned (.bool true) ∧ Below w.heap.size w w' := by
  have HF : Hid (∀ W, Below w.heap.size w W → Five W) := fun W h => hF.below h
  have hz := (zero_of_info info20).1
  clear hF
  go_enter Tryd.func4, Tryd.ntmps4
  go_upto_region 2 with fail
  obtain ⟨X1, hX1⟩ : ∃ X, X = shaC [] := ⟨_, rfl⟩
  obtain ⟨X2, hX2⟩ : ∃ X, X = shaC sampleB := ⟨_, rfl⟩
  have HX1 := Lib.hid hX1
  have HX2 := Lib.hid hX2
  have HL1 : Hid (X1.length = 20) := by show _ = _; rw [hX1]; exact bcells_len _
  have HL2 : Hid (X2.length = 20) := by show _ = _; rw [hX2]; exact bcells_len _
  have HO1 : Hid (∀ v ∈ X1, v.oneCell' = true) := by show ∀ v ∈ X1, _; rw [hX1]; exact bcells_one _
  have HO2 : Hid (∀ v ∈ X2, v.oneCell' = true) := by show ∀ v ∈ X2, _; rw [hX2]; exact bcells_one _
  have HE1 : Hid (X1[0]? = some (.int .u8 218) ∧ X1[19]? = some (.int .u8 9)) := by show _ ∧ _; rw [hX1]; exact sum_none
  have HE2 : Hid (X2[0]? = some (.int .u8 132) ∧ X2[1]? = some (.int .u8 152) ∧ X2[19]? = some (.int .u8 241)) := by show _ ∧ _; rw [hX2]; exact sum_sample
  clear hX1 hX2
  refine wp_region_lit ?_
  refine wpList_plain rfl fun K1 hK1 => ?_
  go_simp
  go_at_call 19
  refine (ssum_any none 0 0 [] _ rfl (by decide) (by decide) (fun x hx => by cases hx) (fun j hj => by cases hj) (HF.out _ (Below.refl _ _))).mono ?_
  rintro e w1 ⟨rfl, hb1⟩
  go_simp
  rw [← HX1.out]
  refine hK1 _ _ ?_
  clear hK1 K1
  have HB := Lib.hid hb1
  have hsz1 := hb1.size
  clear hb1
  refine wpList_plain rfl fun K1 hK1 => ?_
  go_simp
  refine hK1 _ _ ?_
  clear hK1 K1
  obtain ⟨cp, w2, hcv, hcp, hR2, hb2⟩ := conv_bytesS w1 sampleS
  have hR2 : Rd .u8 w2 (some ⟨w1.heap.size, 0, none⟩) sampleB := hR2
  have hcp : 56 ≤ cp := hcp
  have hcv : ∀ dst, Tryd.prog.underlying dst = some (.slice 5) → (convert 9 dst (.string ⟨#[97, 98, 99, 100, 98, 99, 100, 101, 99, 100, 101, 102, 100, 101, 102, 103, 101, 102, 103, 104, 102, 103, 104, 105, 103, 104, 105, 106, 104, 105, 106, 107, 105, 106, 107, 108, 106, 107, 108, 109, 107, 108, 109, 110, 108, 109, 110, 111, 109, 110, 111, 112, 110, 111, 112, 113]⟩)).run Tryd.prog w1 = .ok (.slice (some ⟨w1.heap.size, 0, none⟩) 56 cp) w2 := hcv
  have HR2 := Lib.hid hR2
  have HB := Lib.hid (HB.out.trans (hb2.mono HB.out.size))
  clear hR2 hb2
  refine wpList_plain rfl fun K1 hK1 => ?_
  go_simp
  refine hK1 _ _ ?_
  clear hK1 K1 hcv
  refine wpList_plain rfl fun K1 hK1 => ?_
  go_simp
  go_at_call 19
  refine (ssum_any (some ⟨w1.heap.size, 0, none⟩) 56 cp sampleB _ rfl (by decide) hcp (fun x hx => by simp [sampleB] at hx; omega) HR2.out (HF.out _ HB.out)).mono ?_
  rintro e w3 ⟨rfl, hb3⟩
  go_simp
  rw [← HX2.out]
  refine hK1 _ _ ?_
  clear hK1 K1
  have HB := Lib.hid (HB.out.trans (hb3.mono HB.out.size))
  have hsz3 := HB.out.size
  clear hb3 HR2
  refine wpList_plain rfl fun K1 hK1 => ?_
  go_simp
  refine hK1 _ _ ?_
  clear hK1 K1
  refine wpList_plain rfl fun K1 hK1 => ?_
  go_simp
  refine hK1 _ _ ?_
  clear hK1 K1
  have C2 := (CB.new w3 28 (u8s (z8 20))).alloc (.cells (u8s (z8 20)).toArray 28)
  have C3 := cb2 w3 (.cells (u8s (z8 20)).toArray 28) 28 (u8s (z8 20))
  have HB : Hid (Below w.heap.size w ((w3.alloc (.cells (u8s (z8 20)).toArray 28)).alloc (.cells (u8s (z8 20)).toArray 28))) := (HB.out.alloc hsz3 _).alloc (by simp; omega) _
  generalize (w3.alloc (.cells (u8s (z8 20)).toArray 28)).alloc (.cells (u8s (z8 20)).toArray 28) = W4 at *
  generalize w3.heap.size = g2 at *
  refine wpList_plain rfl fun K1 hK1 => wp_storec 28 (.tmp 2) (.tmp 10) rfl g2 0 20 rfl X1 rfl HL1.out C2 (zero_of_info info20).2 (by simp [u8s, z8]) HO1.out fun w5 C5 hch hsz => hK1 _ _ ?_
  clear hK1 K1
  rw [splice_all (by rw [HL1.out]; simp [u8s, z8])] at C5
  have C3 := C3.chg hch (fun e => by omega)
  have HB := Lib.hid (HB.out.trans (hch.below HB.out.size (fun k hk => by omega)))
  clear hch hsz C2
  refine wpList_plain rfl fun K1 hK1 => wp_storec 28 (.tmp 3) (.tmp 13) rfl (g2 + 1) 0 20 rfl X2 rfl HL2.out C3 (zero_of_info info20).2 (by simp [u8s, z8]) HO2.out fun w6 C6 hch hsz => hK1 _ _ ?_
  clear hK1 K1
  rw [splice_all (by rw [HL2.out]; simp [u8s, z8])] at C6
  have C5 := C5.chg hch (fun e => by omega)
  have HB := Lib.hid (HB.out.trans (hch.below HB.out.size (fun k hk => by omega)))
  clear hch hsz C3
  have k1 : w6.cell? ⟨g2, 0, none⟩ = some (.int .u8 218) := by rw [C5.cell]; exact HE1.out.1
  have k2 : w6.cell? ⟨g2, 19, none⟩ = some (.int .u8 9) := by rw [C5.cell]; exact HE1.out.2
  have k3 : w6.cell? ⟨g2 + 1, 0, none⟩ = some (.int .u8 132) := by rw [C6.cell]; exact HE2.out.1
  have k4 : w6.cell? ⟨g2 + 1, 1, none⟩ = some (.int .u8 152) := by rw [C6.cell]; exact HE2.out.2.1
  have k5 : w6.cell? ⟨g2 + 1, 19, none⟩ = some (.int .u8 241) := by rw [C6.cell]; exact HE2.out.2.2
  clear C5 C6 hz
  go_upto_region 5 with fail
  clear k1 k2 k3 k4 k5
  have hwB := HB.out.size
  go_wp2_with (at_make; refine wpl_make8s rfl _ _ rfl w.heap.size _ _ _ _ 200 rfl rfl rfl rfl (by decide) hwB ?_; intro w7 hown7 hb7 hlt7)
  have HB := Lib.hid (HB.out.trans (hb7.mono (Nat.le_refl _)))
  have HO := Lib.hid hown7
  obtain ⟨G, hG⟩ : ∃ G, G = w6.heap.size := ⟨_, rfl⟩
  rw [← hG] at HO hwB ⊢
  clear hown7 hb7 hlt7 hG
  go_loopw [5] (fun iv wr => ∃ (n : Nat) (zs : List Nat), n ≤ 200 ∧ iv = .int .i64 (n : Nat) ∧ Hid (zs.length = 200) ∧ Hid (∀ x ∈ zs, x < 256) ∧ Hid (wr.ownsRow w.heap.size 5 1 (.slice (some ⟨G, 0, none⟩) 200 200) 200 (u8s zs)) ∧ Hid (Below w.heap.size w wr)) (fun iv _ => 200 - (intOf iv).toNat)
  case atStart => exact ⟨0, List.replicate 200 0, by decide, rfl, List.length_replicate .., (fun x hx => by have := List.eq_of_mem_replicate hx; omega), HO.out, HB.out⟩
  case round =>
    clear HO HB
    obtain ⟨n, zs, hn, rfl, HZ, H8, HO, HB⟩ := hrel
    by_cases hn7 : n < 200
    · obtain ⟨y, hy⟩ : ∃ y, y = (n * 7 + 1) % 256 := ⟨_, rfl⟩
      have e1 : IntKind.u8.wrap ((n : Int) * 7 + 1) = (y : Int) := by
        rw [show IntKind.u8.wrap ((n : Int) * 7 + 1) = ((n : Int) * 7 + 1) % 256 from by simp [IntKind.wrap, IntKind.signed, IntKind.bits]]; omega
      have e2 : ((n : Int) * 7 + 1) % 256 = (y : Int) := by omega
      have hy8 : y < 256 := by omega
      have hcell : wr.cell? ⟨G, n, none⟩ = some (.int .u8 (at0 zs n : Nat)) := by
        rw [World.ownsRow.cellAt HO.out n (by omega), u8s_ats _ n (by rw [HZ.out]; exact hn7)]
      have hfz : wr.frozen? ⟨G, n, none⟩ = false := World.ownsRow.frozenAt HO.out n
      have HO2 := Lib.hid (ow8.set HO.out n y)
      have HB2 : Hid (Below w.heap.size w (wr.setCell ⟨G, n, none⟩ (.int .u8 (y : Nat)))) := HB.out.setCell (p := ⟨G, n, none⟩) hwB _
      have HZ2 : Hid ((zs.set n y).length = 200) := by show _ = _; rw [List.length_set]; exact HZ.out
      have H82 : Hid (∀ x ∈ zs.set n y, x < 256) := fun x hx => by
        rcases List.mem_or_eq_of_mem_set hx with h | h
        · exact H8.out x h
        · omega
      generalize at0 zs n = old at hcell
      clear hy HO HB
      go_wp2
      go_roundw
      case rel => exact ⟨n + 1, _, by omega, by go_num, HZ2.out, H82.out, HO2.out, HB2.out⟩
      case measure => simp [intOf]; omega
    · have hn8 : 200 ≤ n := by omega
      go_wp2
      go_loopw [6] (fun kv wr => ∃ k : Nat, k ≤ 201 ∧ kv = .int .i64 (k : Nat) ∧ Hid (wr.ownsRow w.heap.size 5 1 (.slice (some ⟨G, 0, none⟩) 200 200) 200 (u8s zs)) ∧ Hid (Below w.heap.size w wr)) (fun kv _ => 201 - (intOf kv).toNat)
      case atStart => exact ⟨0, by decide, rfl, HO.out, HB.out⟩
      case round =>
        clear HO HB
        obtain ⟨k, hk, rfl, HO, HB⟩ := hrel
        by_cases hk2 : k ≤ 200
        · have hln : (zs.take k).length = k := by rw [List.length_take, HZ.out]; omega
          have HLN := Lib.hid hln
          have u1 : IntKind.u64.wrap (k : Int) = (k : Int) := by rw [IntKind.wrap_u64]; omega
          clear hln
          go_wp2_with fail
          refine (shaSums_any (some ⟨G, 0, none⟩) k 200 (zs.take k) _ HLN.out (by omega) (fun h => by cases h) (by omega) (fun x hx => H8.out x (List.mem_of_mem_take hx)) (rd_pre (own_rdw HO.out) k) (HF.out _ HB.out)).mono ?_
          rintro e W9 ⟨rfl, hb⟩
          have HO := Lib.hid ((Chg.of_below hb).owns HO.out (fun q hq => by have := (World.ownsRow.lt HO.out q hq).2; omega))
          have HB := Lib.hid (HB.out.trans (hb.mono HB.out.size))
          clear hb
          go_wp2_with fail
          refine (shaPads_any k _ (by omega) (HF.out _ HB.out)).mono ?_
          rintro e W10 ⟨rfl, hb⟩
          have HO := Lib.hid ((Chg.of_below hb).owns HO.out (fun q hq => by have := (World.ownsRow.lt HO.out q hq).2; omega))
          have HB := Lib.hid (HB.out.trans (hb.mono HB.out.size))
          clear hb
          go_wp2_with fail
          refine (shaFills_any k _ (by omega) (HF.out _ HB.out)).mono ?_
          rintro e W11 ⟨rfl, hb⟩
          have HO := Lib.hid ((Chg.of_below hb).owns HO.out (fun q hq => by have := (World.ownsRow.lt HO.out q hq).2; omega))
          have HB := Lib.hid (HB.out.trans (hb.mono HB.out.size))
          clear hb
          go_wp2
          go_roundw
          case rel => exact ⟨k + 1, by omega, by go_num, HO.out, HB.out⟩
          case measure => simp [intOf]; omega
        · have hk9 : 200 < k := by omega
          go_wp2
          go_loopw [7] (fun iv wr => ∃ i : Nat, 50 ≤ i ∧ i ≤ 140 ∧ iv = .int .i64 (i : Nat) ∧ Hid (wr.ownsRow w.heap.size 5 1 (.slice (some ⟨G, 0, none⟩) 200 200) 200 (u8s zs)) ∧ Hid (Below w.heap.size w wr)) (fun iv _ => 140 - (intOf iv).toNat)
          case atStart => exact ⟨50, by decide, by decide, rfl, HO.out, HB.out⟩
          case round =>
            clear HO HB
            obtain ⟨i, hi5, hi, rfl, HO, HB⟩ := hrel
            by_cases hi4 : i < 140
            · have hq7 : decide ((i : Int) < 140) = true := decide_eq_true (by omega)
              have g1 : (i : Int) ≤ 200 := by omega
              have g2 : (0 : Int) ≤ (i : Int) := by omega
              have g3 : ¬ 200 = i := by omega
              have g4 : ¬ i = 200 := by omega
              have g5 : IntKind.i64.wrap (i : Int) = (i : Int) := wrap_i64_nat i (by omega)
              have g6 : i ≤ 200 := by omega
              have hadd : (⟨G, 0, none⟩ : Addr).add i = ⟨G, i, none⟩ := by unfold Addr.add; split <;> simp_all
              have hnil : Value.slice none 0 0 = Value.slice none 0 0 := rfl
              clear hnil
              have HRB : Hid (∀ W, W.ownsRow w.heap.size 5 1 (.slice (some ⟨G, 0, none⟩) 200 200) 200 (u8s zs) → Rd .u8 W (some ⟨G, 0, none⟩) zs ∧ Rd .u8 W (some ⟨G, 0, none⟩) (zs.take i) ∧ Rd .u8 W (some ⟨G, i, none⟩) (zs.drop i)) := fun W h => by
                refine ⟨own_rdw h, rd_pre (own_rdw h) i, ?_⟩
                have := own_rd8 h i (200 - i) (by omega)
                rwa [List.take_of_length_le (by rw [List.length_drop, HZ.out]; exact Nat.le_refl _)] at this
              go_upto_region 18 with fail
              refine wp_region_held (S := fun _ => True) (by kernel_rfl) ?_
              change wpAnyH _ _ _ _ _ _ _ _ (World.drew _)
              have HB : Hid (Below w.heap.size w (World.drew wr)) := HB.out.drew
              have HO : Hid ((World.drew wr).ownsRow w.heap.size 5 1 (.slice (some ⟨G, 0, none⟩) 200 200) 200 (u8s zs)) := HO.out
              have HSS : Hid True := trivial
              refine wpAnyH_take (i := 0) (v := ?_) rfl (by kernel_rfl) (by kernel_rfl) (by kernel_rfl) (fun _ _ _ h => h) (Or.inl ⟨by rfl, ?_⟩) HSS.out ?_
              case refine_2 => (rintro W c0; go_simp; try (with_reducible rfl))
              refine wpAnyH_take (i := 1) (v := ?_) rfl (by kernel_rfl) (by kernel_rfl) (by kernel_rfl) (fun _ _ _ h => h) (Or.inl ⟨by rfl, ?_⟩) HSS.out ?_
              case refine_2 => (rintro W c0; go_simp; try (with_reducible rfl))
              refine wpAnyH_op (i := 2) (by kernel_rfl) rfl (by rfl) (fun K hK => ?_)
              go_simp
              go_at_call 23
              refine (shaCuts_any (some ⟨G, 0, none⟩) 200 200 zs (i : Int) 128 _ HZ.out (by decide) (fun h => by cases h) (by decide) H8.out (HRB.out _ HO.out).1 (HF.out _ HB.out) ⟨by omega, by omega⟩ ⟨by decide, by decide⟩).mono ?_
              rintro e wq2 ⟨rfl, hb⟩
              go_simp
              have HO := Lib.hid ((Chg.of_below hb).owns HO.out (fun q hq => by have := (World.ownsRow.lt HO.out q hq).2; omega))
              have HB := Lib.hid (HB.out.trans (hb.mono HB.out.size))
              refine hK _ _ HSS.out ?_
              clear hK K hb
              go_simp
              refine wpAnyH_take (i := 3) (v := ?_) rfl (by kernel_rfl) (by kernel_rfl) (by kernel_rfl) (fun _ _ _ h => h) (Or.inl ⟨by rfl, ?_⟩) HSS.out ?_
              case refine_2 => (rintro W c0; go_simp; try (with_reducible rfl))
              refine wpAnyH_take (i := 4) (v := ?_) rfl (by kernel_rfl) (by kernel_rfl) (by kernel_rfl) (fun _ _ _ h => h) (Or.inl ⟨by rfl, ?_⟩) HSS.out ?_
              case refine_2 => (rintro W c0; go_simp; try (with_reducible rfl))
              refine wpAnyH_take (i := 5) (v := ?_) rfl (by kernel_rfl) (by kernel_rfl) (by kernel_rfl) (fun _ _ _ h => h) (Or.inl ⟨by rfl, ?_⟩) HSS.out ?_
              case refine_2 => (rintro W c0; go_simp; try (with_reducible rfl))
              go_simp
              refine wpAnyH_take (i := 6) (v := ?_) rfl (by kernel_rfl) (by kernel_rfl) (by kernel_rfl) (fun _ _ _ h => h) (Or.inl ⟨by rfl, ?_⟩) HSS.out ?_
              case refine_2 => (rintro W c0; go_simp; try (with_reducible rfl))
              refine wpAnyH_take (i := 7) (v := ?_) rfl (by kernel_rfl) (by kernel_rfl) (by kernel_rfl) (fun _ _ _ h => h) (Or.inl ⟨by rfl, ?_⟩) HSS.out ?_
              case refine_2 => (rintro W c0; go_simp; try (with_reducible rfl))
              refine wpAnyH_take (i := 8) (v := ?_) rfl (by kernel_rfl) (by kernel_rfl) (by kernel_rfl) (fun _ _ _ h => h) (Or.inl ⟨by rfl, ?_⟩) HSS.out ?_
              case refine_2 => (rintro W c0; go_simp; try (with_reducible rfl))
              go_simp
              refine wpAnyH_take (i := 9) (v := ?_) rfl (by kernel_rfl) (by kernel_rfl) (by kernel_rfl) (fun _ _ _ h => h) (Or.inl ⟨by rfl, ?_⟩) HSS.out ?_
              case refine_2 => (rintro W c0; go_simp; try (with_reducible rfl))
              refine wpAnyH_take (i := 10) (v := ?_) rfl (by kernel_rfl) (by kernel_rfl) (by kernel_rfl) (fun _ _ _ h => h) (Or.inl ⟨by rfl, ?_⟩) HSS.out ?_
              case refine_2 => (rintro W c0; go_simp; try (with_reducible rfl))
              refine wpAnyH_take (i := 11) (v := ?_) rfl (by kernel_rfl) (by kernel_rfl) (by kernel_rfl) (fun _ _ _ h => h) (Or.inl ⟨by rfl, ?_⟩) HSS.out ?_
              case refine_2 => (rintro W c0; go_simp; try (with_reducible rfl))
              go_simp
              refine wpAnyH_take (i := 12) (v := ?_) rfl (by kernel_rfl) (by kernel_rfl) (by kernel_rfl) (fun _ _ _ h => h) (Or.inl ⟨by rfl, ?_⟩) HSS.out ?_
              case refine_2 => (rintro W c0; go_simp; try (with_reducible rfl))
              refine wpAnyH_take (i := 13) (v := ?_) rfl (by kernel_rfl) (by kernel_rfl) (by kernel_rfl) (fun _ _ _ h => h) (Or.inl ⟨by rfl, ?_⟩) HSS.out ?_
              case refine_2 => (rintro W c0; go_simp; try (with_reducible rfl))
              refine wpAnyH_take (i := 14) (v := ?_) rfl (by kernel_rfl) (by kernel_rfl) (by kernel_rfl) (fun _ _ _ h => h) (Or.inl ⟨by rfl, ?_⟩) HSS.out ?_
              case refine_2 => (rintro W c0; go_simp; try (with_reducible rfl))
              go_simp
              refine wpAnyH_take (i := 15) (v := ?_) rfl (by kernel_rfl) (by kernel_rfl) (by kernel_rfl) (fun _ _ _ h => h) (Or.inl ⟨by rfl, ?_⟩) HSS.out ?_
              case refine_2 => (rintro W c0; go_simp; try (with_reducible rfl))
              refine wpAnyH_take (i := 16) (v := ?_) rfl (by kernel_rfl) (by kernel_rfl) (by kernel_rfl) (fun _ _ _ h => h) (Or.inl ⟨by rfl, ?_⟩) HSS.out ?_
              case refine_2 => (rintro W c0; go_simp; try (with_reducible rfl))
              refine wpAnyH_take (i := 17) (v := ?_) rfl (by kernel_rfl) (by kernel_rfl) (by kernel_rfl) (fun _ _ _ h => h) (Or.inl ⟨by rfl, ?_⟩) HSS.out ?_
              case refine_2 => (rintro W c0; go_simp; try (with_reducible rfl))
              go_simp
              refine wpAnyH_take (i := 18) (v := ?_) rfl (by kernel_rfl) (by kernel_rfl) (by kernel_rfl) (fun _ _ _ h => h) (Or.inl ⟨by rfl, ?_⟩) HSS.out ?_
              case refine_2 => (rintro W c0; go_simp; try (with_reducible rfl))
              refine wpAnyH_take (i := 19) (v := ?_) rfl (by kernel_rfl) (by kernel_rfl) (by kernel_rfl) (fun _ _ _ h => h) (Or.inl ⟨by rfl, ?_⟩) HSS.out ?_
              case refine_2 => (rintro W c0; go_simp; try (with_reducible rfl))
              refine wpAnyH_take (i := 20) (v := ?_) rfl (by kernel_rfl) (by kernel_rfl) (by kernel_rfl) (fun _ _ _ h => h) (Or.inl ⟨by rfl, ?_⟩) HSS.out ?_
              case refine_2 => (rintro W c0; go_simp; try (with_reducible rfl))
              go_simp
              refine wpAnyH_take (i := 21) (v := ?_) rfl (by kernel_rfl) (by kernel_rfl) (by kernel_rfl) (fun _ _ _ h => h) (Or.inl ⟨by rfl, ?_⟩) HSS.out ?_
              case refine_2 => (rintro W c0; go_simp; try (with_reducible rfl))
              refine wpAnyH_take (i := 22) (v := ?_) rfl (by kernel_rfl) (by kernel_rfl) (by kernel_rfl) (fun _ _ _ h => h) (Or.inl ⟨by rfl, ?_⟩) HSS.out ?_
              case refine_2 => (rintro W c0; go_simp; try (with_reducible rfl))
              refine wpAnyH_take (i := 23) (v := ?_) rfl (by kernel_rfl) (by kernel_rfl) (by kernel_rfl) (fun _ _ _ h => h) (Or.inl ⟨by rfl, ?_⟩) HSS.out ?_
              case refine_2 => (rintro W c0; go_simp; try (with_reducible rfl))
              go_simp
              refine wpAnyH_take (i := 24) (v := ?_) rfl (by kernel_rfl) (by kernel_rfl) (by kernel_rfl) (fun _ _ _ h => h) (Or.inl ⟨by rfl, ?_⟩) HSS.out ?_
              case refine_2 => (rintro W c0; go_simp; try (with_reducible rfl))
              go_simp
              have HSL : Hid (∀ W, W.ownsRow w.heap.size 5 1 (.slice (some ⟨G, 0, none⟩) 200 200) 200 (u8s zs) → ∀ x ∈ scriptK G i, ∃ aa n c xs, x.2 = .slice aa n c ∧ xs.length = n ∧ n ≤ c ∧ c ≤ 9223372036854775807 ∧ (aa = none → c = 0) ∧ (∀ y ∈ xs, y < 256) ∧ Rd .u8 W aa xs) := fun W h => script_rows (HRB.out W h).1 (HRB.out W h).2.1 (HRB.out W h).2.2 HZ.out H8.out (by omega)
              refine wpAnyH_op (i := 25) (by kernel_rfl) rfl (by rfl) (fun K hK => ?_)
              go_simp
              have hwq := HB.out.size
              have HO : Hid ((wq2.alloc (.cells (stepCells (scriptK G i)).toArray 27)).ownsRow w.heap.size 5 1 (.slice (some ⟨G, 0, none⟩) 200 200) 200 (u8s zs)) := HO.out.alloc _
              have HB : Hid (Below w.heap.size w (wq2.alloc (.cells (stepCells (scriptK G i)).toArray 27))) := HB.out.alloc hwq _
              have HST : Hid (Steps (wq2.alloc (.cells (stepCells (scriptK G i)).toArray 27)) (some ⟨wq2.heap.size, 0, none⟩) 10) := steps_of (CB.new wq2 27 (stepCells (scriptK G i))) (HSL.out _ HO.out)
              refine hK _ _ HSS.out ?_
              clear hK K
              refine wpAnyH_op (i := 26) (by kernel_rfl) rfl (by rfl) (fun K hK => ?_)
              go_simp
              go_at_call 3
              refine (shaPieces_any (some ⟨wq2.heap.size, 0, none⟩) 10 10 (wq2.alloc (.cells (stepCells (scriptK G i)).toArray 27)) (by decide) HST.out (HF.out _ HB.out)).mono ?_
              rintro e wq3 ⟨rfl, hb⟩
              go_simp
              have HO := Lib.hid ((Chg.of_below hb).owns HO.out (fun q hq => by have := (World.ownsRow.lt HO.out q hq).2; omega))
              have HB := Lib.hid (HB.out.trans (hb.mono HB.out.size))
              refine hK _ _ HSS.out ?_
              clear hK K hb HST
              refine wpAnyH_take (i := 27) (v := ?_) rfl (by kernel_rfl) (by kernel_rfl) (by kernel_rfl) (fun _ _ _ h => h) (Or.inl ⟨by rfl, ?_⟩) HSS.out ?_
              case refine_2 => (rintro W c0; go_simp; try (with_reducible rfl))
              refine wpAnyH_take (i := 28) (v := ?_) rfl (by kernel_rfl) (by kernel_rfl) (by kernel_rfl) (fun _ _ _ h => h) (Or.inl ⟨by rfl, ?_⟩) HSS.out ?_
              case refine_2 => (rintro W c0; go_simp; try (with_reducible rfl))
              refine wpAnyH_done (by kernel_rfl) ?_ _
              go_wp2
              go_roundw
              case rel => exact ⟨i + 1, by omega, by omega, by go_num, HO.out, HB.out⟩
              case measure => simp [intOf]; omega
            · have hi9 : 140 ≤ i := by omega
              go_wp2
              have C1 : Hid (CB (wr.alloc (.cells (u64s words64).toArray 35)) 35 wr.heap.size (u64s words64)) := CB.new wr _ _
              have HB1 : Hid (Below w.heap.size w (wr.alloc (.cells (u64s words64).toArray 35))) := HB.out.alloc HB.out.size _
              obtain ⟨Q, hQ⟩ : ∃ Q, Q = wr.heap.size := ⟨_, rfl⟩
              rw [← hQ] at C1
              go_loopw [109] (fun jv wr => ∃ j : Nat, j ≤ 10 ∧ jv = .int .i64 (j : Nat) ∧ Hid (CB wr 35 Q (u64s words64)) ∧ Hid (Below w.heap.size w wr)) (fun jv _ => 10 - (intOf jv).toNat)
              case atStart => exact ⟨0, by decide, rfl, C1.out, HB1.out⟩
              case round =>
                clear C1 HB1 HB HO
                rw [← hQ]
                clear hQ
                obtain ⟨j, hj, rfl, HC, HB⟩ := hrel
                by_cases hj1 : j < 10
                · have hil : j < words64.length := hj1
                  have hcell : wr.cell? ⟨Q, j, none⟩ = some (.int .u64 (words64[j] : Nat)) := by
                    rw [HC.out.cell, u64s, List.getElem?_map, List.getElem?_eq_getElem hil]; rfl
                  have hxl := words64_lt _ (List.getElem_mem hil)
                  have HXL := Lib.hid hxl
                  generalize words64[j] = x at hcell HXL
                  clear hxl hil
                  go_wp2_with fail
                  refine (shaPads_any x _ HXL.out (HF.out _ HB.out)).mono ?_
                  rintro e W10 ⟨rfl, hb⟩
                  have HC := Lib.hid (HC.out.below hb)
                  have HB := Lib.hid (HB.out.trans (hb.mono HB.out.size))
                  clear hb
                  go_wp2_with fail
                  refine (shaFills_any x _ HXL.out (HF.out _ HB.out)).mono ?_
                  rintro e W11 ⟨rfl, hb⟩
                  have HC := Lib.hid (HC.out.below hb)
                  have HB := Lib.hid (HB.out.trans (hb.mono HB.out.size))
                  clear hb
                  go_wp2
                  go_roundw
                  case rel => exact ⟨j + 1, by omega, by go_num, HC.out, HB.out⟩
                  case measure => simp [intOf]; omega
                · have hj9 : 10 ≤ j := by omega
                  go_wp2_with fail
                  refine (works5_any _ (HF.out _ HB.out)).mono ?_
                  rintro e W9 ⟨rfl, hb⟩
                  have HB := Lib.hid (HB.out.trans (hb.mono HB.out.size))
                  clear hb
                  go_wp2
                  go_ret
                  exact ⟨rfl, HB.out⟩
end Go.Proofs.YtpipjkpjpkgmpaaDoor
