import Derived.Test.YtpipjkpjpkgmpaaDoorShE0
namespace Go.Proofs.YtpipjkpjpkgmpaaDoor
open Go.RowKit

def bcells (s : S5) : List Value := (bytes20 s).map (.int .u8)
theorem bcells_len (s : S5) : (bcells s).length = 20 := by simp [bcells, bytes20]
def b20 (s : S5) (i : Nat) : List Value := (bcells s).take i ++ (u8s (z8 20)).drop i
theorem b20_zero (s : S5) : b20 s 0 = u8s (z8 20) := rfl
theorem b20_all (s : S5) : b20 s 20 = bcells s := by
  unfold b20
  rw [List.take_of_length_le (by rw [bcells_len]; exact Nat.le_refl _), List.drop_of_length_le (by simp [u8s, z8]), List.append_nil]
theorem b20_at (s : S5) (i : Nat) (h : i < 20) : ∃ old, (b20 s i)[i]? = some (.int .u8 old) := by
  refine ⟨0, ?_⟩
  unfold b20
  rw [List.getElem?_append_right (by simp [bcells_len]; omega), List.length_take, bcells_len, Nat.min_eq_left (by omega), Nat.sub_self, List.getElem?_drop, Nat.add_zero, u8s, List.getElem?_map, z8, List.getElem?_replicate, if_pos h]
  rfl
theorem b20_next (s : S5) (i : Nat) (h : i < 20) : (b20 s i).set i (.int .u8 (byteI s i)) = b20 s (i + 1) := by
  unfold b20
  have hl : ((bcells s).take i).length = i := by rw [List.length_take, bcells_len]; omega
  rw [List.set_append_right _ _ (by rw [hl]; exact Nat.le_refl _), hl, Nat.sub_self]
  have e : (bcells s).take (i + 1) = (bcells s).take i ++ [.int .u8 (byteI s i)] := by
    rw [List.take_add_one, List.getElem?_eq_getElem (by rw [bcells_len]; exact h)]
    simp [bcells, bytes20]
  rw [e, List.append_assoc]
  congr 1
  rw [List.drop_eq_getElem_cons (by simp [u8s, z8]; exact h)]
  rfl

set_option maxHeartbeats 2000000 in
set_option maxRecDepth 100000 in
theorem fbytes_any (s : S5) (w : World) : Calls Tryd.prog 38 #[.agg s.cells.toArray] w fun e w' => e = .returned (.agg (bcells s).toArray) ∧ Below w.heap.size w w' := by
  have hz := (zero_of_info info20).1
  go_enter Tryd.func38, Tryd.ntmps38
  go_wp2
  have HS := Lib.hid (((CB.new w 56 s.cells).alloc (.cells (u8s (z8 20)).toArray 28)).alloc (.cells (u8s (z8 20)).toArray 28))
  have HR := Lib.hid ((cb2 w (.cells s.cells.toArray 56) 28 (u8s (z8 20))).alloc (.cells (u8s (z8 20)).toArray 28))
  have HO := Lib.hid (cb3 w (.cells s.cells.toArray 56) (.cells (u8s (z8 20)).toArray 28) 28 (u8s (z8 20)))
  have HB := Lib.hid (bl3 w (.cells s.cells.toArray 56) (.cells (u8s (z8 20)).toArray 28) (.cells (u8s (z8 20)).toArray 28))
  go_loopw [5] (fun iv wr => ∃ i : Nat, iv = .int .i64 (i : Nat) ∧ i ≤ 20 ∧ Hid (CB wr 28 (w.heap.size + 1 + 1) (b20 s i)) ∧ Hid (CB wr 28 (w.heap.size + 1) (u8s (z8 20))) ∧ Hid (CB wr 56 w.heap.size s.cells) ∧ Hid (Below w.heap.size w wr)) (fun iv _ => 20 - (intOf iv).toNat)
  case atStart => exact ⟨0, rfl, by decide, HO.out, HR.out, HS.out, HB.out⟩
  case round =>
    clear HO HR HS HB
    obtain ⟨i, rfl, hi, HO, HR, HS, HB⟩ := hrel
    by_cases h20 : i < 20
    · obtain ⟨q, hq⟩ : ∃ q, q = i / 4 := ⟨_, rfl⟩
      obtain ⟨r, hr⟩ : ∃ r, r = i % 4 := ⟨_, rfl⟩
      obtain ⟨m, hm⟩ : ∃ m, m = 24 - 8 * r := ⟨_, rfl⟩
      have e1 : (i : Int).tdiv 4 = (q : Int) := by rw [Int.tdiv_eq_ediv_of_nonneg (by omega)]; omega
      have e2 : (i : Int).tmod 4 = (r : Int) := by rw [Int.tmod_eq_emod_of_nonneg (by omega)]; omega
      have e3 : (24 : Int) - (r : Int) * 8 = (m : Int) := by omega
      have e4 : (24 : Int) - 8 * (r : Int) = (m : Int) := by omega
      have hq5 : q < 5 := by omega
      have hm32 : m < 32 := by omega
      have hr4 : r < 4 := by omega
      have c1 : wr.cell? ⟨w.heap.size, q, none⟩ = some (.int .u32 (s.at q)) := by rw [HS.out.cell, cells_at _ _ hq5]
      have HX : Hid (byteI s i = s.at q / 2 ^ m % 256) := by show _ = _; rw [byteI, hq, hm, hr]
      have f0 := HO.out.free i
      obtain ⟨old, c0⟩ : ∃ old, wr.cell? ⟨(w.heap.size + 1 + 1), i, none⟩ = some (.int .u8 old) := by rw [HO.out.cell]; exact b20_at _ _ h20
      have HN := Lib.hid (b20_next s i h20)
      generalize s.at q = xq at *
      have hgs : w.heap.size ≠ (w.heap.size + 1 + 1) := by omega
      have hgr : (w.heap.size + 1) ≠ (w.heap.size + 1 + 1) := by omega
      clear hq hr hm
      go_wp2
      go_roundw
      case rel =>
        refine ⟨i + 1, by go_num, by omega, ?_, HR.out.other ⟨(w.heap.size + 1 + 1), i, none⟩ (fun e => hgr e.symm) _, HS.out.other ⟨(w.heap.size + 1 + 1), i, none⟩ (fun e => hgs e.symm) _, HB.out.setCell (p := ⟨(w.heap.size + 1 + 1), i, none⟩) (by show _ ≤ (w.heap.size + 1 + 1); omega) _⟩
        rw [← HN.out, HX.out]
        exact HO.out.set i _
      case measure => simp [intOf]; omega
    · have hi20 : i = 20 := by omega
      have hq : decide ((i : Int) < 20) = false := by rw [decide_eq_false_iff_not]; omega
      rw [hi20, b20_all] at HO
      clear hi20
      have hL : (bcells s).length = 20 := by simp [bcells, bytes20]
      have h1c : ∀ v ∈ bcells s, v.oneCell' = true := by
        intro v hv; obtain ⟨x, _, rfl⟩ := List.mem_map.1 hv; rfl
      obtain ⟨G, hG⟩ : ∃ G, G = bcells s := ⟨_, rfl⟩
      rw [← hG] at HO hL h1c
      have HG := Lib.hid hG
      clear hG
      go_upto_region 7 with fail
      refine wp_region_lit ?_
      refine wpList_plain rfl fun K1 hK1 => wp_loadc 28 (.tmp 3) rfl ((w.heap.size + 1 + 1)) 0 20 rfl HO.out _ Tryd.underlying28 rfl (zero_of_info info20).2 (by omega) G (by rw [List.drop_zero]; exact List.take_of_length_le (by omega)) (hK1 _ _ ?_)
      clear hK1 K1
      refine wpList_plain rfl fun K1 hK1 => wp_storec 28 (.tmp 2) (.tmp 21) rfl ((w.heap.size + 1)) 0 20 rfl G rfl hL HR.out (zero_of_info info20).2 (by simp [u8s, z8]) h1c fun w' hc hch hsz => hK1 _ _ ?_
      clear hK1 K1
      rw [splice_all (by rw [hL]; simp [u8s, z8])] at hc
      go_wp2
      refine bodyPost_ret (ret_row rfl rfl hc _ Tryd.underlying28 rfl (by rw [(zero_of_info info20).2, hL])) rfl ⟨by rw [HG.out], ?_⟩
      exact HB.out.trans (hch.below HB.out.size (fun k hk => by omega))
end Go.Proofs.YtpipjkpjpkgmpaaDoor
