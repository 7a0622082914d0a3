import Derived.Test.YtpipjkpjpkgmpaaDoorShJ
import Derived.Test.YtpipjkpjpkgmpaaDoorShD
import Derived.Test.YtpipjkpjpkgmpaaDoorShH
namespace Go.Proofs.YtpipjkpjpkgmpaaDoor
open Go.RowKit

/-- SHA-1, as cells. -/
def shaC (m : List Nat) : List Value := bcells (sha5 m)
theorem own_rd8 {w : World} {B g n c : Nat} {zs : List Nat} (h : w.ownsRow B 5 1 (.slice (some ⟨g, 0, none⟩) n c) n (u8s zs)) (o k : Nat) (hk : o + k ≤ n) : Rd .u8 w (some ⟨g, o, none⟩) ((zs.drop o).take k) := by
  have hl : zs.length = n := by have := h.1; simpa [u8s] using this
  intro j hj
  refine ⟨g, o, rfl, fun i hi => ?_⟩
  have hk2 : i < k := by simp at hi; omega
  rw [World.ownsRow.cellAt h (o + i) (by omega), u8s, List.getElem?_map, List.getElem?_eq_getElem (by omega)]
  simp [List.getD, List.getElem?_take, List.getElem?_drop, hk2, show o + i < zs.length by omega]
theorem own_rdw {w : World} {B g n c : Nat} {zs : List Nat} (h : w.ownsRow B 5 1 (.slice (some ⟨g, 0, none⟩) n c) n (u8s zs)) : Rd .u8 w (some ⟨g, 0, none⟩) zs := by
  have hl : zs.length = n := by have := h.1; simpa [u8s] using this
  have := own_rd8 h 0 n (by omega)
  rwa [List.drop_zero, List.take_of_length_le (by omega)] at this
theorem u8s_news (k : List Nat) : ∀ u ∈ u8s k, u.oneCell' = true := by
  intro v hv; obtain ⟨x, _, rfl⟩ := List.mem_map.1 hv; rfl
theorem pad_byte (n : Nat) : ∀ x ∈ padI n, x < 256 := by
  intro x hx
  simp [padI] at hx
  rcases hx with rfl | ⟨_, rfl⟩ | ⟨i, _, rfl⟩
  · decide
  · decide
  · exact Nat.mod_lt _ (by decide)

set_option maxHeartbeats 2000000 in
set_option maxRecDepth 100000 in
theorem rsum_any (a : Option Addr) (len cap : Nat) (b : List Nat) (w : World) (hl : b.length = len) (hbig : len ≤ 1099511627776) (hcap : len ≤ cap) (hna : a = none → cap = 0) (hb : ∀ x ∈ b, x < 256) (hr : Rd .u8 w a b) :
    Calls Tryd.prog 12 #[.slice a len cap] w fun e w' => e = .returned (.agg (shaC b).toArray) ∧ Below w.heap.size w w' := by
  have hz := (zero_of_info info20).1
  have hpl := padN_lt len
  have e0 : IntKind.u64.wrap ((len : Nat) : Int) = (len : Int) := by rw [IntKind.wrap_u64]; omega
  have HR0 := Lib.hid hr
  clear hr
  go_enter Tryd.func12, Tryd.ntmps12
  have hr : Rd .u8 (w.alloc (.cells (u8s (z8 20)).toArray 28)) a b := HR0.out.below ((Below.refl _ _).alloc (Nat.le_refl _) _)
  have HRR := Lib.hid (CB.new w 28 (u8s (z8 20)))
  have HB := Lib.hid ((Below.refl w.heap.size w).alloc (Nat.le_refl _) (.cells (u8s (z8 20)).toArray 28))
  go_upto_region 2 with fail
  generalize w.alloc (.cells (u8s (z8 20)).toArray 28) = W0 at *
  go_upto_region 3 with (at_builtin; refine wpl_appN 25 5 Tryd.underlying25 info8 rfl (by decide) rfl _ _ rfl W0.heap.size (.slice none 0 0) 0 [] rfl (World.ownsRow_nil _ _ _ _) a len cap rfl (u8s b) (by rw [u8s_len]; exact hl) (by rw [← hl]; exact hr.news) (fun _ h => hna h) (u8s_news b) (by omega) (Nat.le_refl _) ?_; intro v1 w1 hown1 hg1 hor1 hnil1)
  have HW00 := Lib.hid HRR.out.lt
  have HRR := Lib.hid (HRR.out.below ((Below.refl _ _).grown hg1 (Nat.le_refl _) (fun k hk => by cases hk)))
  have HB := Lib.hid (HB.out.grown hg1 HB.out.size (fun k hk => by cases hk))
  have HW0 : Hid (w.heap.size < W0.heap.size ∧ W0.heap.size ≤ w1.heap.size) := ⟨HW00.out, (Chg.of_grown hg1).size⟩
  clear hr hor1 hnil1 hg1 HR0
  go_upto_region 4 with (first
    | (go_at_call 39; refine (rpad_any len _ (by omega)).mono ?_; rintro e w2 ⟨g2, c2, rfl, hown2, hb2⟩
       have hown1 := (Chg.of_below hb2).owns hown1 (fun k hk => by have := (hown1.lt k hk).2; omega)
       have hr2 := own_rdw hown2
       have hsz2 := hb2.size)
    | (at_builtin; refine wpl_appN 25 5 Tryd.underlying25 info8 rfl (by decide) rfl _ _ rfl W0.heap.size v1 (0 + len) ([] ++ u8s b) rfl hown1 (some ⟨g2, 0, none⟩) (padN len + 9) c2 rfl (u8s (padI len)) (by rw [u8s_len, padI_len]) (by rw [← padI_len]; exact hr2.news) (fun h => absurd h (by omega)) (u8s_news _) (by omega) (by have := HW0.out; omega) ?_; intro v3 w3 hown3 hg3 hor3 hnil3))
  have HRR := Lib.hid ((HRR.out.below hb2).belowB ((Below.refl W0.heap.size w2).grown hg3 (by have := HW0.out; omega) (fun k hk => (hown1.lt k hk).1)) HW0.out.1)
  obtain ⟨all, hall⟩ : ∃ all, all = b ++ padI len := ⟨_, rfl⟩
  obtain ⟨n3, hn3⟩ : ∃ n3, n3 = len + (padN len + 9) := ⟨_, rfl⟩
  have hown3 : w3.ownsRow W0.heap.size 5 1 v3 n3 (u8s all) := by
    have e : u8s all = [] ++ u8s b ++ u8s (padI len) := by rw [hall]; simp [u8s]
    rw [e, hn3]; rwa [Nat.zero_add] at hown3
  rcases hown3.2 with ⟨_, h0⟩ | ⟨g3, c3, cur, rfl, hbg, hheap, hcp, hmax, hcur, htake⟩
  · omega
  have hsz3 : w2.heap.size ≤ w3.heap.size := (Chg.of_grown hg3).size
  have hlt3 := (hown3.lt g3 rfl).2
  have HB := Lib.hid ((HB.out.trans (hb2.mono HB.out.size)).grown hg3 (by have := HB.out.size; omega) (fun k hk => by have := (hown1.lt k hk).1; have := HW0.out; omega))
  have hm64 : n3 % 64 = 0 := by have := padI_whole len; rw [padI_len] at this; omega
  have hn3b : n3 ≤ 1099511627900 := by omega
  have halll : all.length = n3 := by rw [hall, List.length_append, padI_len, hl, hn3]
  have HAB : Hid (∀ x ∈ all, x < 256) := by
    intro x hx; rw [hall] at hx; rcases List.mem_append.1 hx with h | h
    · exact hb x h
    · exact pad_byte _ x h
  have HALL : Hid (∀ k, 64 * k = n3 → blocks5 start5 all k = sha5 b) := by
    intro k hk
    rw [sha5, hl, ← hall, halll, ← hk, Nat.mul_div_cancel_left _ (by decide)]
  have HO3 := Lib.hid hown3
  have HLT : Hid (w.heap.size < W0.heap.size ∧ W0.heap.size ≤ g3 ∧ g3 < w3.heap.size) := ⟨HW0.out.1, hbg, hlt3⟩
  clear hheap hcur htake hown3 hn3 hall hg3 hor3 hnil3 hown1 hr2 hsz2 hown2 hb2 hsz3 hbg hlt3 hmax hpl e0 hbig hcap hna hb
  go_upto_region 5 with fail
  have A4 := CB.new w3 55 start5.cells
  have HRR := Lib.hid (HRR.out.alloc (.cells start5.cells.toArray 55))
  have HO3 := Lib.hid ((Chg.of_below ((Below.refl w3.heap.size w3).alloc (Nat.le_refl _) (.cells start5.cells.toArray 55))).owns HO3.out (fun k hk => by have e : g3 = k := Option.some.inj hk; have := HLT.out; omega))
  have HB := Lib.hid (HB.out.alloc HB.out.size (.cells start5.cells.toArray 55))
  have A4 := Lib.hid A4
  generalize w3.heap.size = g4 at *
  go_wp2
  go_loopw [5] (fun iv wr => ∃ (p k : Nat) (x : S5), iv = .int .i64 (p : Nat) ∧ p ≤ n3 ∧ Hid (p = 64 * k) ∧ Hid (x = blocks5 start5 all k) ∧ Hid (CB wr 55 g4 x.cells) ∧ Hid (CB wr 28 w.heap.size (u8s (z8 20))) ∧ Hid (wr.ownsRow W0.heap.size 5 1 (.slice (some ⟨g3, 0, none⟩) n3 c3) n3 (u8s all)) ∧ Hid (Below w.heap.size w wr)) (fun iv _ => n3 - (intOf iv).toNat)
  case atStart => exact ⟨0, 0, start5, rfl, Nat.zero_le _, rfl, rfl, A4.out, HRR.out, HO3.out, HB.out⟩
  case round =>
    clear A4 HRR HO3 HB
    obtain ⟨p, k, x, rfl, hp, HP, HX, A4, HRR, HO3, HB⟩ := hrel
    by_cases hpn : p < n3
    · obtain ⟨p64, hp64⟩ : ∃ p64, p64 = p + 64 := ⟨_, rfl⟩
      have e1 : (p : Int) + 64 = (p64 : Int) := by omega
      have e2 : p64 - p = 64 := by omega
      have hpp : p ≤ p64 := by omega
      have hpc : p64 ≤ c3 := by have := HP.out; omega
      have hpn3 : p64 ≤ n3 := by have := HP.out; omega
      have w64 : IntKind.i64.wrap (p64 : Int) = (p64 : Int) := wrap_i64_nat _ (by omega)
      have w0 : IntKind.i64.wrap (p : Int) = (p : Int) := wrap_i64_nat _ (by omega)
      have z0 : (0 : Int) ≤ (p : Int) := by omega
      have z1 : (0 : Int) ≤ (p64 : Int) := by omega
      have z2 : (p : Int) ≤ (p64 : Int) := by omega
      have z3 : (p64 : Int) ≤ (c3 : Int) := by omega
      have HRB := Lib.hid (own_rd8 HO3.out p 64 (by omega))
      have HBL : Hid (((all.drop p).take 64).length = 64 ∧ ∀ y ∈ (all.drop p).take 64, y < 256) := ⟨by simp; omega, fun y hy => HAB.out y (List.mem_of_mem_drop (List.mem_of_mem_take hy))⟩
      obtain ⟨nb, hnb⟩ : ∃ nb, nb = block5 x ((all.drop p).take 64) := ⟨_, rfl⟩
      have HNB := Lib.hid hnb
      have hne : c3 ≠ p := by omega
      have HP64 := Lib.hid hp64
      clear hp64 hnb
      have HSS : Hid (wr.cell? ⟨g4, 0, none⟩ = some (.int .u32 x.a) ∧ wr.cell? ⟨g4, 1, none⟩ = some (.int .u32 x.b) ∧ wr.cell? ⟨g4, 2, none⟩ = some (.int .u32 x.c) ∧ wr.cell? ⟨g4, 3, none⟩ = some (.int .u32 x.d) ∧ wr.cell? ⟨g4, 4, none⟩ = some (.int .u32 x.e)) := ⟨A4.out.cell 0, A4.out.cell 1, A4.out.cell 2, A4.out.cell 3, A4.out.cell 4⟩
      go_upto_region 8 with fail
      refine wp_region_tail (fun W => W.cell? ⟨g4, 0, none⟩ = some (.int .u32 x.a) ∧ W.cell? ⟨g4, 1, none⟩ = some (.int .u32 x.b) ∧ W.cell? ⟨g4, 2, none⟩ = some (.int .u32 x.c) ∧ W.cell? ⟨g4, 3, none⟩ = some (.int .u32 x.d) ∧ W.cell? ⟨g4, 4, none⟩ = some (.int .u32 x.e)) 7 (by kernel_rfl) ?_
      refine wpAnyT_take (i := 0) (v := ?_) rfl (by kernel_rfl) (by kernel_rfl) (by kernel_rfl) (by kernel_rfl) rfl (by kernel_rfl) (fun _ _ _ h => h) (Or.inl ⟨by rfl, ?_⟩) HSS.out ?_
      case refine_2 => (rintro W ⟨c0, c1, c2, c3, c4⟩; go_simp; try (with_reducible rfl))
      refine wpAnyT_take (i := 1) (v := ?_) rfl (by kernel_rfl) (by kernel_rfl) (by kernel_rfl) (by kernel_rfl) rfl (by kernel_rfl) (fun _ _ _ h => h) (Or.inl ⟨by rfl, ?_⟩) HSS.out ?_
      case refine_2 => (rintro W ⟨c0, c1, c2, c3, c4⟩; go_simp; try (with_reducible rfl))
      refine wpAnyT_take (i := 2) (v := ?_) rfl (by kernel_rfl) (by kernel_rfl) (by kernel_rfl) (by kernel_rfl) rfl (by kernel_rfl) (fun _ _ _ h => h) (Or.inl ⟨by rfl, ?_⟩) HSS.out ?_
      case refine_2 => (rintro W ⟨c0, c1, c2, c3, c4⟩; go_simp; try (with_reducible rfl))
      refine wpAnyT_take (i := 3) (v := ?_) rfl (by kernel_rfl) (by kernel_rfl) (by kernel_rfl) (by kernel_rfl) rfl (by kernel_rfl) (fun _ _ _ h => h) (Or.inl ⟨by rfl, ?_⟩) HSS.out ?_
      case refine_2 => (rintro W ⟨c0, c1, c2, c3, c4⟩; go_simp; try (with_reducible rfl))
      refine wpAnyT_take (i := 4) (v := ?_) rfl (by kernel_rfl) (by kernel_rfl) (by kernel_rfl) (by kernel_rfl) rfl (by kernel_rfl) (fun _ _ _ h => h) (Or.inl ⟨by rfl, ?_⟩) HSS.out ?_
      case refine_2 => (rintro W ⟨c0, c1, c2, c3, c4⟩; go_simp; try (with_reducible rfl))
      refine wpAnyT_take (i := 5) (v := ?_) rfl (by kernel_rfl) (by kernel_rfl) (by kernel_rfl) (by kernel_rfl) rfl (by kernel_rfl) (fun _ _ _ h => h) (Or.inl ⟨by rfl, ?_⟩) HSS.out ?_
      case refine_2 => (rintro W ⟨c0, c1, c2, c3, c4⟩; go_simp; try (with_reducible rfl))
      refine wpAnyT_op (i := 6) (by kernel_rfl) rfl (by rfl) (fun K hK => ?_)
      go_simp
      go_at_call 40
      refine (rblock_any x (some ⟨g3, p, none⟩) 64 (c3 - p) ((all.drop p).take 64) _ HBL.out.1 rfl HBL.out.2 (show Rd .u8 wr.drew _ _ from HRB.out)).mono ?_
      rintro e w5 ⟨rfl, hb5⟩
      go_simp
      have A5 : Hid (CB w5 55 g4 x.cells) := CB.below (w := wr.drew) A4.out hb5
      have HO5 : Hid (w5.ownsRow W0.heap.size 5 1 (.slice (some ⟨g3, 0, none⟩) n3 c3) n3 (u8s all)) := (Chg.of_below hb5).owns (show wr.drew.ownsRow _ _ _ _ _ _ from HO3.out) (fun k hk => by have e : g3 = k := Option.some.inj hk; have := (HO3.out.lt g3 rfl).2; have : wr.drew.heap.size = wr.heap.size := rfl; omega)
      have HR5 : Hid (CB w5 28 w.heap.size (u8s (z8 20))) := CB.below (w := wr.drew) HRR.out hb5
      have HB5 : Hid (Below w.heap.size w w5) := HB.out.drew.trans (hb5.mono HB.out.drew.size)
      refine hK _ _ (fun _ => ⟨A5.out.cell 0, A5.out.cell 1, A5.out.cell 2, A5.out.cell 3, A5.out.cell 4⟩) ?_
      clear hK K hb5
      refine wpAnyT_last (i := 7) (by kernel_rfl) rfl (by rfl) (by kernel_rfl) (by kernel_rfl) (fun K hK => ?_)
      refine wp_storec 55 (.tmp 4) (.tmp 30) rfl g4 0 5 rfl (block5 x ((all.drop p).take 64)).cells rfl rfl A5.out (zero_of_info info5).2 (show 0 + 5 ≤ x.cells.length from Nat.le_refl 5) (cells_one _) fun w6 A6 hch hsz => hK _ _ ?_
      clear hK K
      have A6 : CB w6 55 g4 (block5 x ((all.drop p).take 64)).cells := A6
      have hg43 : g4 ≠ g3 := by have := HLT.out; omega
      have hg4w : g4 ≠ w.heap.size := by have := HLT.out; omega
      have A6 := Lib.hid A6
      have HO6 := Lib.hid (hch.owns HO5.out (fun k hk => by have e : g3 = k := Option.some.inj hk; omega))
      have HR6 := Lib.hid (HR5.out.chg hch (fun e => hg4w e.symm))
      have HB6 := Lib.hid (HB5.out.trans (hch.below HB5.out.size (fun k hk => by have := HLT.out; omega)))
      rw [← HNB.out] at A6
      clear hch hsz HSS A5 HO5 HR5 HB5
      go_wp2
      go_roundw
      case rel => exact ⟨p64, k + 1, nb, by go_num, hpn3, by show _ = _; have := HP.out; have := HP64.out; omega, by show _ = _; rw [blocks5, ← HX.out, HNB.out, HP.out], A6.out, HR6.out, HO6.out, HB6.out⟩
      case measure => simp [intOf]; have := HP64.out; omega
    · have hpn3 : p = n3 := by omega
      have hq : decide ((p : Int) < (n3 : Int)) = false := by rw [decide_eq_false_iff_not]; omega
      have HSF : Hid (x = sha5 b) := by show _ = _; rw [HX.out]; exact HALL.out k (by rw [← HP.out, hpn3])
      have hz := (zero_of_info info20).1
      clear hpn3 HX HALL
      go_upto_region 10 with fail
      have HS := Lib.hid (A4.out.alloc (.cells (u8s (z8 20)).toArray 28))
      have HR := Lib.hid (HRR.out.alloc (.cells (u8s (z8 20)).toArray 28))
      have HO := Lib.hid (CB.new wr 28 (u8s (z8 20)))
      have HB := Lib.hid (HB.out.alloc HB.out.size (.cells (u8s (z8 20)).toArray 28))
      have hgb : g4 < wr.heap.size := A4.out.lt
      have hgw : w.heap.size < g4 := by have := HLT.out; omega
      generalize wr.heap.size = g6 at *
      clear A4 HRR HO3 hz
      go_wp2
      go_loopw [7] (fun iv wr => ∃ i : Nat, iv = .int .i64 (i : Nat) ∧ i ≤ 20 ∧ Hid (CB wr 28 g6 (b20 x i)) ∧ Hid (CB wr 28 w.heap.size (u8s (z8 20))) ∧ Hid (CB wr 55 g4 x.cells) ∧ Hid (Below w.heap.size w wr)) (fun iv _ => 20 - (intOf iv).toNat)
      case atStart => exact ⟨0, rfl, by decide, HO.out, HR.out, HS.out, HB.out⟩
      case round =>
        clear HO HR HS HB
        obtain ⟨i, rfl, hi, HO, HR, HS, HB⟩ := hrel
        by_cases h20 : i < 20
        · obtain ⟨q, hq⟩ : ∃ q, q = i / 4 := ⟨_, rfl⟩
          obtain ⟨r, hr⟩ : ∃ r, r = i % 4 := ⟨_, rfl⟩
          obtain ⟨m, hm⟩ : ∃ m, m = 24 - 8 * r := ⟨_, rfl⟩
          have e1 : (i : Int).tdiv 4 = (q : Int) := by rw [Int.tdiv_eq_ediv_of_nonneg (by omega)]; omega
          have e2 : (i : Int).tmod 4 = (r : Int) := by rw [Int.tmod_eq_emod_of_nonneg (by omega)]; omega
          have e3 : (24 : Int) - (r : Int) * 8 = (m : Int) := by omega
          have e4 : (24 : Int) - 8 * (r : Int) = (m : Int) := by omega
          have hq5 : q < 5 := by omega
          have hm32 : m < 32 := by omega
          have hr4 : r < 4 := by omega
          have c1 : wr.cell? ⟨g4, q, none⟩ = some (.int .u32 (x.at q)) := by rw [HS.out.cell, cells_at _ _ hq5]
          have HX : Hid (byteI x i = x.at q / 2 ^ m % 256) := by show _ = _; rw [byteI, hq, hm, hr]
          have f0 := HO.out.free i
          obtain ⟨old, c0⟩ : ∃ old, wr.cell? ⟨g6, i, none⟩ = some (.int .u8 old) := by rw [HO.out.cell]; exact b20_at _ _ h20
          have HN := Lib.hid (b20_next x i h20)
          generalize x.at q = xq at *
          have hgs : g4 ≠ g6 := by omega
          have hgr : w.heap.size ≠ g6 := by omega
          clear hq hr hm
          go_wp2
          go_roundw
          case rel =>
            refine ⟨i + 1, by go_num, by omega, ?_, HR.out.other ⟨g6, i, none⟩ (fun e => hgr e.symm) _, HS.out.other ⟨g6, i, none⟩ (fun e => hgs e.symm) _, HB.out.setCell (p := ⟨g6, i, none⟩) (by show _ ≤ g6; omega) _⟩
            rw [← HN.out, HX.out]
            exact HO.out.set i _
          case measure => simp [intOf]; omega
        · have hi20 : i = 20 := by omega
          have hq : decide ((i : Int) < 20) = false := by rw [decide_eq_false_iff_not]; omega
          rw [hi20, b20_all] at HO
          clear hi20
          have hL : (bcells x).length = 20 := by simp [bcells, bytes20]
          have h1c : ∀ v ∈ bcells x, v.oneCell' = true := by
            intro v hv; obtain ⟨x, _, rfl⟩ := List.mem_map.1 hv; rfl
          obtain ⟨G, hG⟩ : ∃ G, G = bcells x := ⟨_, rfl⟩
          rw [← hG] at HO hL h1c
          have HG := Lib.hid hG
          clear hG
          go_upto_region 14 with fail
          refine wp_region_lit ?_
          refine wpList_plain rfl fun K1 hK1 => wp_loadc 28 (.tmp 6) rfl (g6) 0 20 rfl HO.out _ Tryd.underlying28 rfl (zero_of_info info20).2 (by omega) G (by rw [List.drop_zero]; exact List.take_of_length_le (by omega)) (hK1 _ _ ?_)
          clear hK1 K1
          refine wpList_plain rfl fun K1 hK1 => wp_storec 28 (.tmp 2) (.tmp 47) rfl (w.heap.size) 0 20 rfl G rfl hL HR.out (zero_of_info info20).2 (by simp [u8s, z8]) h1c fun w' hc hch hsz => hK1 _ _ ?_
          clear hK1 K1
          rw [splice_all (by rw [hL]; simp [u8s, z8])] at hc
          go_wp2
          refine bodyPost_ret (ret_row rfl rfl hc _ Tryd.underlying28 rfl (by rw [(zero_of_info info20).2, hL])) rfl ⟨by rw [HG.out, shaC, ← HSF.out], ?_⟩
          exact HB.out.trans (hch.below HB.out.size (fun k hk => by omega))
end Go.Proofs.YtpipjkpjpkgmpaaDoor
