import Derived.Test.YtpipjkpjpkgmpaaDoorShN
namespace Go.Proofs.YtpipjkpjpkgmpaaDoor
open Go.RowKit

theorem bcells_one (s : S5) : ∀ v ∈ bcells s, v.oneCell' = true := by
  intro v hv; obtain ⟨x, _, rfl⟩ := List.mem_map.1 hv; rfl
theorem Chg.of_ws {g B : Nat} {w w' : World} (h : Chg (WS g w.heap.size) w w') (hB : B ≤ w.heap.size) (hg : B ≤ g) : Below B w w' :=
  h.below hB (fun k hk => by rcases hk with rfl | h; exact hg; omega)

set_option maxHeartbeats 1600000 in
set_option maxRecDepth 100000 in
theorem hsum_any (g : Nat) (m : List Nat) (w : World) (hS : HSt w g m) (hbig : m.length ≤ 549755813888) :
    Calls Tryd.prog 11 #[.pointer (some ⟨g, 0, none⟩)] w fun e w' => e = .returned (.agg (shaC m).toArray) ∧ Below w.heap.size w w' := by
  have hz := (zero_of_info info20).1
  have hzH := (zero_of_info infoH).1
  have hpl := padN_lt m.length
  have hgl := hS.lt
  have HS := Lib.hid hS
  clear hS
  go_enter Tryd.func11, Tryd.ntmps11
  go_upto_region 3 with fail
  have HR := Lib.hid (CB.new w 28 (u8s (z8 20)))
  have HS := Lib.hid (HS.out.below ((Below.refl _ _).alloc (Nat.le_refl _) (.cells (u8s (z8 20)).toArray 28)))
  have HB := Lib.hid ((Below.refl w.heap.size w).alloc (Nat.le_refl _) (.cells (u8s (z8 20)).toArray 28))
  generalize w.alloc (.cells (u8s (z8 20)).toArray 28) = W0 at *
  have hgw : w.heap.size < W0.heap.size := HR.out.lt
  obtain ⟨buf, hbl, hbb, hcb, hpre⟩ := HS.out
  obtain ⟨H, hH⟩ : ∃ H, H = hcells (blocks5 start5 m (m.length / 64)) buf m.length := ⟨_, rfl⟩
  have hHl : H.length = 70 := by rw [hH]; exact hcells_len _ _ _ hbl
  have hHn : H[69]? = some (.int .u64 ((m.length : Nat) : Int)) := by rw [hH]; exact hcells_n _ _ _ hbl
  rw [← hH] at hcb
  have HH := Lib.hid hH
  clear hH
  refine wp_region_lit ?_
  refine wpList_plain rfl fun K1 hK1 => ?_
  go_simp
  refine hK1 _ _ ?_
  clear hK1 K1
  refine wpList_plain rfl fun K1 hK1 => ?_
  go_simp
  refine hK1 _ _ ?_
  clear hK1 K1
  refine wpList_plain rfl fun K1 hK1 => wp_loadc 59 (.tmp 8) rfl g 0 70 rfl hcb _ Tryd.underlying59 rfl (zero_of_info infoH).2 (by rw [hHl]; exact Nat.le_refl _) H (by rw [List.drop_zero]; exact List.take_of_length_le (by rw [hHl]; exact Nat.le_refl _)) (hK1 _ _ ?_)
  clear hK1 K1
  obtain ⟨Z, hZ⟩ : ∃ Z, Z = hcells ⟨0, 0, 0, 0, 0⟩ (z8 64) 0 := ⟨_, rfl⟩
  rw [← hZ] at hzH
  have hZl : Z.length = 70 := by rw [hZ]; rfl
  clear hZ
  refine wpList_plain rfl fun K1 hK1 => ?_
  go_simp
  refine hK1 _ _ ?_
  clear hK1 K1
  have C3 := CB.new W0 59 Z
  have hcb := hcb.alloc (.cells Z.toArray 59)
  have HR := Lib.hid (HR.out.alloc (.cells Z.toArray 59))
  have HB := Lib.hid (HB.out.alloc HB.out.size (.cells Z.toArray 59))
  have hg3 : g < W0.heap.size := HS.out.lt
  have hsz1 : W0.heap.size < (W0.alloc (.cells Z.toArray 59)).heap.size := by simp
  generalize W0.heap.size = g3 at *
  generalize W0.alloc (.cells Z.toArray 59) = W1 at *
  refine wpList_plain rfl fun K1 hK1 => wp_storec 59 (.tmp 3) (.tmp 9) rfl g3 0 70 rfl H rfl hHl C3 (zero_of_info infoH).2 (by rw [hZl]; exact Nat.le_refl _) (by rw [HH.out]; exact hcells_one _ _ _) fun w2 C2 hch hsz => hK1 _ _ ?_
  clear hK1 K1
  rw [splice_all (by rw [hHl, hZl])] at C2
  have S3 : HSt w2 g3 m := ⟨buf, hbl, hbb, by rw [← HH.out]; exact C2, hpre⟩
  have kn : w2.cell? ⟨g, 69, none⟩ = some (.int .u64 ((m.length : Nat) : Int)) := by rw [(hcb.chg hch (by omega)).cell]; exact hHn
  have HR := Lib.hid (HR.out.chg hch (by omega))
  have HB := Lib.hid (HB.out.trans (hch.below HB.out.size (fun k hk => by omega)))
  have hsz2 : g3 < w2.heap.size := C2.lt
  clear hch hsz C3 C2 hcb hHl hHn HH hZl hzH hz hbl hbb hpre HS hsz1
  go_upto_region 5 with (first
    | (go_at_call 37; refine (spad_any m.length _ (by omega)).mono ?_; rintro e w3 ⟨g2, c2, rfl, hown2, hb2⟩
       have S3 := S3.below hb2
       have HR := Lib.hid (HR.out.below hb2)
       have HB := Lib.hid (HB.out.trans (hb2.mono HB.out.size))
       have hg23 : g2 ≠ g3 := by have := (hown2.lt g2 rfl).1; omega
       have hc2 : padN m.length + 9 ≤ c2 := by
         rcases hown2.2 with ⟨h, _⟩ | ⟨g', c', cur, h, _, _, hn, _⟩
         · cases h
         · cases h; exact hn
       have hr2 := own_rdw hown2
       have hsz3 : w2.heap.size ≤ w3.heap.size := (Chg.of_below hb2).size
       clear hown2 hb2 kn)
    | (go_at_call 16; refine (write_any g3 m (some ⟨g2, 0, none⟩) (padN m.length + 9) c2 (padI m.length) _ S3 (padI_len _) (by omega) hc2 (pad_byte _) hr2 (fun _ p hp => by obtain rfl := Option.some.inj hp; exact hg23)).mono ?_; rintro e w4 ⟨rfl, S4, hw4⟩))
  have HR := Lib.hid (HR.out.chg hw4 (fun h => by rcases h with h | h <;> omega))
  have HB := Lib.hid (HB.out.trans (hw4.of_ws (by omega) (by omega)))
  obtain ⟨buf4, hbl4, hbb4, hcb4, hpre4⟩ := S4
  obtain ⟨S, hSS⟩ : ∃ S, S = blocks5 start5 (m ++ padI m.length) ((m ++ padI m.length).length / 64) := ⟨_, rfl⟩
  have HSF : Hid (sha5 m = S) := by show _ = _; rw [hSS]; rfl
  rw [← hSS] at hcb4
  have k0 : w4.cell? ⟨g3, 0, none⟩ = some (.int .u32 S.a) := (hcb4.cell 0).trans (hcells_s _ _ _ 0 (by decide))
  have k1 : w4.cell? ⟨g3, 1, none⟩ = some (.int .u32 S.b) := (hcb4.cell 1).trans (hcells_s _ _ _ 1 (by decide))
  have k2 : w4.cell? ⟨g3, 2, none⟩ = some (.int .u32 S.c) := (hcb4.cell 2).trans (hcells_s _ _ _ 2 (by decide))
  have k3 : w4.cell? ⟨g3, 3, none⟩ = some (.int .u32 S.d) := (hcb4.cell 3).trans (hcells_s _ _ _ 3 (by decide))
  have k4 : w4.cell? ⟨g3, 4, none⟩ = some (.int .u32 S.e) := (hcb4.cell 4).trans (hcells_s _ _ _ 4 (by decide))
  clear hw4 hbl4 hbb4 hcb4 hpre4 hSS S3 hr2
  refine wp_region_lit ?_
  refine wpList_plain rfl fun K1 hK1 => ?_
  go_simp
  refine hK1 _ _ ?_
  clear hK1 K1
  refine wpList_plain rfl fun K1 hK1 => ?_
  go_simp
  refine hK1 _ _ ?_
  clear hK1 K1
  refine wpList_plain rfl fun K1 hK1 => ?_
  go_simp
  go_at_call 38
  refine (fbytes_any S _).mono ?_
  rintro e w5 ⟨rfl, hb5⟩
  go_simp
  refine hK1 _ _ ?_
  clear hK1 K1
  have HR := Lib.hid (HR.out.below hb5)
  have HB := Lib.hid (HB.out.trans (hb5.mono HB.out.size))
  clear hb5 k0 k1 k2 k3 k4
  refine wpList_plain rfl fun K1 hK1 => wp_storec 28 (.tmp 2) (.tmp 18) rfl (w.heap.size) 0 20 rfl (bcells S) rfl (bcells_len S) HR.out (zero_of_info info20).2 (by simp [u8s, z8]) (bcells_one S) fun w6 C6 hch hsz => hK1 _ _ ?_
  clear hK1 K1
  rw [splice_all (by rw [bcells_len]; simp [u8s, z8])] at C6
  have HE := Lib.hid (bcells_len S)
  obtain ⟨G, hG⟩ : ∃ G, G = bcells S := ⟨_, rfl⟩
  rw [← hG] at C6 HE
  have HG := Lib.hid hG
  clear hG
  go_wp2
  refine bodyPost_ret (ret_row rfl rfl C6 _ Tryd.underlying28 rfl (by rw [(zero_of_info info20).2, HE.out])) rfl ⟨by rw [HG.out, shaC, HSF.out], ?_⟩
  exact HB.out.trans (hch.below HB.out.size (fun k hk => by omega))

set_option maxHeartbeats 1600000 in
set_option maxRecDepth 100000 in
theorem ssum_any (a : Option Addr) (len cap : Nat) (l : List Nat) (w : World) (hl : l.length = len) (hbig : len ≤ 549755813888) (hcap : len ≤ cap) (hb : ∀ x ∈ l, x < 256) (hr : Rd .u8 w a l) (hF : Five w) :
    Calls Tryd.prog 19 #[.slice a len cap] w fun e w' => e = .returned (.agg (shaC l).toArray) ∧ Below w.heap.size w w' := by
  have hz := (zero_of_info info20).1
  have HR0 := Lib.hid hr
  have HRX := Lib.hid hr
  have HF := Lib.hid (hF.below ((Below.refl _ _).alloc (Nat.le_refl _) (.cells (u8s (z8 20)).toArray 28)))
  clear hr hF
  go_enter Tryd.func19, Tryd.ntmps19
  go_upto_region 1 with fail
  have HR := Lib.hid (CB.new w 28 (u8s (z8 20)))
  have HRD := Lib.hid (HR0.out.below ((Below.refl _ _).alloc (Nat.le_refl _) (.cells (u8s (z8 20)).toArray 28)))
  have HB := Lib.hid ((Below.refl w.heap.size w).alloc (Nat.le_refl _) (.cells (u8s (z8 20)).toArray 28))
  have hgw : w.heap.size < (w.alloc (.cells (u8s (z8 20)).toArray 28)).heap.size := by simp
  generalize w.alloc (.cells (u8s (z8 20)).toArray 28) = W0 at *
  clear hz HR0
  go_upto_region 3 with (first
    | (go_at_call 10; refine (new_any _ HF.out).mono ?_; rintro e w1 ⟨rfl, S1, hb1⟩
       have HR := Lib.hid (HR.out.below hb1)
       have HRD := Lib.hid (HRD.out.below hb1)
       have HB := Lib.hid (HB.out.trans (hb1.mono HB.out.size))
       have hsz1 : W0.heap.size ≤ w1.heap.size := (Chg.of_below hb1).size
       clear hb1)
    | (go_at_call 16; refine (write_any W0.heap.size [] a len cap l _ S1 hl (by simp; omega) hcap hb HRD.out (fun h0 p hp => by obtain ⟨bb, off, e, hc⟩ := HRX.out.get (by omega); rw [e] at hp; obtain rfl := Option.some.inj hp; have := World.block_lt_of_cell? w ⟨bb, off + 0, none⟩ (hc 0 (by omega)); show bb ≠ _; have h2 : bb < w.heap.size := this; omega)).mono ?_; rintro e w2 ⟨rfl, S2, hw2⟩))
  rw [List.nil_append] at S2
  have HR := Lib.hid (HR.out.chg hw2 (fun h => by rcases h with h | h <;> omega))
  have HB := Lib.hid (HB.out.trans (hw2.of_ws (by omega) (by omega)))
  clear hw2 HRD HF
  refine wp_region_lit ?_
  refine wpList_plain rfl fun K1 hK1 => ?_
  go_simp
  refine hK1 _ _ ?_
  clear hK1 K1
  refine wpList_plain rfl fun K1 hK1 => ?_
  go_simp
  go_at_call 11
  refine (hsum_any _ l _ S2 (by omega)).mono ?_
  rintro e w5 ⟨rfl, hb5⟩
  go_simp
  refine hK1 _ _ ?_
  clear hK1 K1
  have HR := Lib.hid (HR.out.below hb5)
  have HB := Lib.hid (HB.out.trans (hb5.mono HB.out.size))
  obtain ⟨S, hSS⟩ : ∃ S, S = sha5 l := ⟨_, rfl⟩
  have HSF : Hid (sha5 l = S) := hSS.symm
  rw [show shaC l = bcells S by rw [hSS]; rfl]
  clear hb5 hSS S2 S1
  refine wpList_plain rfl fun K1 hK1 => wp_storec 28 (.tmp 2) (.tmp 9) rfl (w.heap.size) 0 20 rfl (bcells S) rfl (bcells_len S) HR.out (zero_of_info info20).2 (by simp [u8s, z8]) (bcells_one S) fun w6 C6 hch hsz => hK1 _ _ ?_
  clear hK1 K1
  rw [splice_all (by rw [bcells_len]; simp [u8s, z8])] at C6
  have HE := Lib.hid (bcells_len S)
  obtain ⟨G, hG⟩ : ∃ G, G = bcells S := ⟨_, rfl⟩
  rw [← hG] at C6 HE
  have HG := Lib.hid hG
  clear hG
  go_wp2
  refine bodyPost_ret (ret_row rfl rfl C6 _ Tryd.underlying28 rfl (by rw [(zero_of_info info20).2, HE.out])) rfl ⟨by rw [HG.out, shaC, HSF.out], ?_⟩
  exact HB.out.trans (hch.below HB.out.size (fun k hk => by omega))
end Go.Proofs.YtpipjkpjpkgmpaaDoor
