import Derived.Test.YtkghgfiindpcjaaDeV
import Derived.Test.YtkghgfiindpcjaaDeS
import Derived.Test.YtkghgfiindpcjaaBkW
namespace Go.Proofs.Ytkghgfiindpcjaa
open Go.RowKit

/-! DerItems, DerReads. -/
theorem Sep.join {w w' : World} {B B2 : Nat} {R1 R2 : List Rw} (h1 : Sep w B R1) (hB : B ≤ w.heap.size) (hb : Below w.heap.size w w') (hB2 : w.heap.size ≤ B2) (h2 : Sep w' B2 R2) : Sep w' B (R2 ++ R1) := by
  have h3 := h1.belowS hb
  refine ⟨fun r hr => ?_, List.pairwise_append.2 ⟨h2.2, h3.2, fun r hr s hs k hk hk2 => ?_⟩⟩
  · rcases List.mem_append.1 hr with hr | hr
    · exact owns_base (h2.1 r hr) (by omega)
    · exact h3.1 r hr
  · have g1 := World.ownsRow.lt (h2.1 r hr) k hk
    have g2 := World.ownsRow.lt (h1.1 s hs) k hk2
    omega
theorem Bok.wordsC {w : World} {B bk T : Nat} {WV BV : List Value} {R : List Rw} {vw vb : Value} (h : Bok w B bk T WV BV R vw vb) (va : Option Addr) (vn vc : Nat) (hn : WV.length + 1 ≤ 1099511627776) :
    Calls Try.prog 16 #[.pointer (some ⟨bk, 0, none⟩), .slice va vn vc] w fun e w' => e = .returned (.tuple #[]) ∧ (∃ vw', Bok w' B bk T (WV ++ [.slice va vn vc]) BV R vw' vb) ∧ Below bk w w' ∧ Chg (fun k => k = bk ∨ some k = vw.ownBlock) w w' := by
  have hlt := h.lt
  have hbs := h.base
  refine (bookWords_any bk B WV.length vw vb WV va vn vc w T h.book h.sep.head (fun hk => by have := h.offw _ hk; omega) hn (by omega)).mono ?_
  rintro e w' ⟨rfl, g, cap, hbk, hown, hc, hg⟩
  have hbg : bk < g := by
    rcases hg with hg | hg
    · exact h.offw _ hg
    · omega
  refine ⟨rfl, ⟨_, hbk, ?_, h.off, (fun k hk => ?_), h.offb, hbs⟩, hc.below (Nat.le_of_lt hlt) fun k hk => ?_, hc⟩
  · refine h.sep.upd2 (r' := ⟨.slice (some ⟨g, 0, none⟩) (WV.length + 1) cap, 27, (WV ++ [Value.slice va vn vc]).length, WV ++ [Value.slice va vn vc]⟩) hc (fun s hs hk => ?_) (by simpa using hown) fun k hk => ?_
    · rcases List.mem_cons.1 hs with rfl | hs
      · have := h.offb _ hk; omega
      · exact h.off s hs hk
    · have : g = k := by simpa [Value.ownBlock] using hk
      subst this
      exact hg
  · have : g = k := by simpa [Value.ownBlock] using hk
    omega
  · rcases hk with rfl | hk
    · exact Nat.le_refl _
    · exact Nat.le_of_lt (h.offw k hk.symm)
set_option maxHeartbeats 800000 in
theorem bookKey_any {w : World} {B bk T : Nat} {WV BV : List Value} {R : List Rw} {vw vb : Value} (h : Bok w B bk T WV BV R vw vb) (a1 : Option Addr) (n1 c1 : Nat) (a2 : Option Addr) (n2 c2 : Nat) (hn : WV.length + 2 ≤ 1099511627776) :
    Calls Try.prog 23 #[.pointer (some ⟨bk, 0, none⟩), .agg #[.slice a1 n1 c1, .slice a2 n2 c2]] w fun e w' => e = .returned (.tuple #[]) ∧ (∃ vw', Bok w' B bk T (WV ++ [.slice a1 n1 c1] ++ [.slice a2 n2 c2]) BV R vw' vb) ∧ Below bk w w' := by
  have hlt := h.lt
  have hB0 : Below w.heap.size w (w.alloc (KO (.slice a1 n1 c1) (.slice a2 n2 c2))) := (Below.refl _ _).alloc (Nat.le_refl _) _
  have hk0 : (w.alloc (KO (.slice a1 n1 c1) (.slice a2 n2 c2))).heap[w.heap.size]? = some (KO (.slice a1 n1 c1) (.slice a2 n2 c2)) := heap_new _ _
  have H := Lib.hid (h.below hB0)
  have HK := Lib.hid hk0
  have HB := Lib.hid hB0
  have HV : Hid (∀ k, vw.ownBlock = some k → k < w.heap.size) := fun k hk => (World.ownsRow.lt h.sep.head k hk).2
  clear h hB0 hk0
  go_enter Try.func23, Try.ntmps23
  go_wp2_with fail
  refine (H.out.wordsC a1 n1 c1 (by omega)).mono ?_
  rintro e w1 ⟨rfl, ⟨vw', hbok⟩, hb1, hc1⟩
  have hk1 := hc1.heap HK.out (fun h => by
    rcases h with h | h
    · omega
    · have := HV.out _ h.symm; omega)
  have HK1 := Lib.hid hk1
  have H1 := Lib.hid hbok
  have HB1 := Lib.hid ((HB.out.mono (Nat.le_of_lt hlt)).trans hb1)
  obtain ⟨-, kc⟩ := KO.cells hk1
  clear hbok hb1 hc1 hk1
  go_wp2_with fail
  refine (H1.out.words a2 n2 c2 (by rw [List.length_append]; simp; omega)).mono ?_
  rintro e w2 ⟨rfl, ⟨vw2, hbok⟩, hb2⟩
  have H2 := Lib.hid hbok
  have HB2 := Lib.hid (HB1.out.trans hb2)
  clear hbok hb2
  go_wp2
  exact bodyPost_end (results_none rfl _ _ _) rfl ⟨rfl, ⟨_, H2.out⟩, HB2.out⟩
theorem lent_rdD {w : World} {B g n c : Nat} {xs : List Nat} {tl : List Value} (h : w.ownsRow B 5 1 (.slice (some ⟨g, 0, none⟩) n c) n (u8s xs ++ tl)) (hn : xs.length ≤ n) : Rd .u8 w (some ⟨g, 0, none⟩) xs := fun _ _ => ⟨g, 0, rfl, fun i hi => by
  rw [Nat.zero_add, World.ownsRow.cellAt h i (by omega), List.getElem?_append_left (by rw [u8s_len]; exact hi), u8s, List.getElem?_map, List.getElem?_eq_getElem hi, List.getD_eq_getElem?_getD, List.getElem?_eq_getElem hi]; rfl⟩

set_option maxHeartbeats 4000000 in
set_option maxRecDepth 100000 in
theorem derReads_any (a : Option Addr) (len cap : Nat) (b : List Nat) (w : World) (hl : b.length = len) (hcap : len ≤ cap) (hcm : cap ≤ 9223372036854775807) (hna : a = none → cap = 0) (h8 : B8 b) (hr : Rd .u8 w a b) :
    Calls Try.prog 4 #[.slice a len cap] w fun e w' => e = .returned (.bool true) ∧ Below w.heap.size w w' := by
  by_cases hbig : 4096 < len
  · have hq : decide ((4096 : Int) < (len : Int)) = true := decide_eq_true (by omega)
    clear hr
    go_enter Try.func4, Try.ntmps4
    go_wp2
    go_ret
    exact ⟨rfl, Below.refl _ _⟩
  · have hq : decide ((4096 : Int) < (len : Int)) = false := decide_eq_false (by omega)
    have HLE := Lib.hid hl
    have HR := Lib.hid hr
    have H8 := Lib.hid h8
    clear hl hr h8 hna
    go_enter Try.func4, Try.ntmps4
    go_wp2_with fail
    refine (lentBytes_any a len cap b _ HLE.out (by omega) HR.out).mono ?_
    rintro e w1 ⟨g, c1, rfl, hown1, hgw, hb1⟩
    have hc1 : len ≤ c1 := by
      rcases hown1.2 with ⟨h, _⟩ | ⟨g', c', cur, h, _, _, hn, _⟩
      · cases h
      · cases h; omega
    have hc1m : c1 ≤ 9223372036854775807 := by
      rcases hown1.2 with ⟨h, _⟩ | ⟨g', c', cur, h, _, _, _, hm, _⟩
      · cases h
      · cases h; exact hm
    have HR1 := Lib.hid (HR.out.below hb1)
    have HBW1 := Lib.hid hb1
    have HL1 := Lib.hid hown1
    have HLR := Lib.hid (lent_rdD (xs := b) (show w1.ownsRow _ _ _ (.slice (some ⟨g, 0, none⟩) (len + 16) c1) (len + 16) _ from hown1) (by rw [HLE.out]; omega))
    clear hown1 hb1 hgw
    go_wp2_with fail
    refine (decode_any (some ⟨g, 0, none⟩) len c1 b _ HLE.out (by omega) hc1 hc1m (fun h => by cases h) H8.out HLR.out).mono ?_
    rintro e w2 ⟨hb, a2, c2, N, a3, c3, E, k, rfl, hsp, hn1, hn2, hT⟩
    have HT := Lib.hid hT
    obtain ⟨n, hn⟩ : ∃ n, n = N.length := ⟨_, rfl⟩
    obtain ⟨m, hm⟩ : ∃ m, m = E.length := ⟨_, rfl⟩
    have HN := Lib.hid hn
    have HM := Lib.hid hm
    rw [← hn] at hsp hn1 ⊢
    rw [← hm] at hsp hn2 ⊢
    clear hT hn hm
    obtain ⟨g4, hg4⟩ : ∃ g4, g4 = w2.heap.size := ⟨_, rfl⟩
    obtain ⟨W2, hW2⟩ : ∃ W2, W2 = w2.alloc (KO (.slice a2 n c2) (.slice a3 m c3)) := ⟨_, rfl⟩
    have hb2 : Below w2.heap.size w2 W2 := by rw [hW2]; exact (Below.refl _ _).alloc (Nat.le_refl _) _
    have HK4 : Hid (W2.heap[g4]? = some (KO (.slice a2 n c2) (.slice a3 m c3))) := by show _ = _; rw [hW2, hg4]; exact heap_new _ _
    have HS := Lib.hid (hsp.belowS hb2)
    have HX := Lib.hid (hb.trans (hb2.mono hb.size))
    have HWW := Lib.hid (And.intro hW2 hg4)
    clear hsp hb hb2 hW2 hg4
    go_wp2_with fail
    rw [← HWW.out.1, ← HWW.out.2]
    clear HWW
    refine (decode_any (some ⟨g, 0, none⟩) len c1 b _ HLE.out (by omega) hc1 hc1m (fun h => by cases h) H8.out (HLR.out.below HX.out)).mono ?_
    rintro e w3 ⟨hb, a4, c4, N2, a5, c5, E2, k2, rfl, hsp, -, -, hT⟩
    obtain ⟨rfl, rfl, rfl⟩ := hT.one HT.out
    rw [← HN.out, ← HM.out] at hsp ⊢
    have HS := Lib.hid (HS.out.join HX.out.size hb (Nat.le_refl _) hsp)
    have HX := Lib.hid (HX.out.trans (hb.mono HX.out.size))
    have HK4 := Lib.hid (KO.below HK4.out hb)
    clear hb hsp hT
    obtain ⟨g6, hg6⟩ : ∃ g6, g6 = w3.heap.size := ⟨_, rfl⟩
    obtain ⟨W3, hW3⟩ : ∃ W3, W3 = w3.alloc (KO (.slice a4 n c4) (.slice a5 m c5)) := ⟨_, rfl⟩
    have hb2 : Below w3.heap.size w3 W3 := by rw [hW3]; exact (Below.refl _ _).alloc (Nat.le_refl _) _
    have HK6 : Hid (W3.heap[g6]? = some (KO (.slice a4 n c4) (.slice a5 m c5))) := by show _ = _; rw [hW3, hg6]; exact heap_new _ _
    have HS := Lib.hid (HS.out.belowS hb2)
    have HX := Lib.hid (HX.out.trans (hb2.mono HX.out.size))
    have HK4 := Lib.hid (KO.below HK4.out hb2)
    have HWW := Lib.hid (And.intro hW3 hg6)
    clear hb2 hW3 hg6
    go_wp2_with fail
    rw [← HWW.out.1, ← HWW.out.2]
    clear HWW
    refine (rdecode_any a len cap b _ HLE.out (by omega) hcap H8.out (HR1.out.below HX.out)).mono ?_
    rintro e w4 ⟨hb, a6, c6, N3, a7, c7, E3, k3, rfl, hsp, -, -, hT⟩
    obtain ⟨rfl, rfl, rfl⟩ := hT.one HT.out
    rw [← HN.out, ← HM.out] at hsp ⊢
    have HS := Lib.hid (HS.out.belowS hb)
    have HX := Lib.hid (HX.out.trans (hb.mono HX.out.size))
    have HK4 := Lib.hid (KO.below HK4.out hb)
    have HK6 := Lib.hid (KO.below HK6.out hb)
    have HS3 := Lib.hid hsp
    clear hb hsp hT
    obtain ⟨g8, hg8⟩ : ∃ g8, g8 = w4.heap.size := ⟨_, rfl⟩
    obtain ⟨W4, hW4⟩ : ∃ W4, W4 = w4.alloc (KO (.slice a6 n c6) (.slice a7 m c7)) := ⟨_, rfl⟩
    have hb2 : Below w4.heap.size w4 W4 := by rw [hW4]; exact (Below.refl _ _).alloc (Nat.le_refl _) _
    have HK8 : Hid (W4.heap[g8]? = some (KO (.slice a6 n c6) (.slice a7 m c7))) := by show _ = _; rw [hW4, hg8]; exact heap_new _ _
    have HS := Lib.hid (HS.out.belowS hb2)
    have HS3 := Lib.hid (HS3.out.belowS hb2)
    have HX := Lib.hid (HX.out.trans (hb2.mono HX.out.size))
    have HK4 := Lib.hid (KO.below HK4.out hb2)
    have HK6 := Lib.hid (KO.below HK6.out hb2)
    have HWW := Lib.hid (And.intro hW4 hg8)
    clear hb2 hW4 hg8
    have hkk : (k3 != k3) = false := by simp
    have r4 := (own64.rd (HS.out.own (v := .slice a2 n c2) (zs := N3) (by simp))).2
    have r4e := (own64.rd (HS.out.own (v := .slice a3 m c3) (zs := E3) (by simp))).2
    have r6 := (own64.rd (HS.out.own (v := .slice a4 n c4) (zs := N3) (by simp))).2
    have r6e := (own64.rd (HS.out.own (v := .slice a5 m c5) (zs := E3) (by simp))).2
    have r8 := (own64.rd (HS3.out.own (v := .slice a6 n c6) (zs := N3) (by simp))).2
    have r8e := (own64.rd (HS3.out.own (v := .slice a7 m c7) (zs := E3) (by simp))).2
    have R4 := Lib.hid (And.intro r4 r4e)
    have R6 := Lib.hid (And.intro r6 r6e)
    have R8 := Lib.hid (And.intro r8 r8e)
    obtain ⟨kc4, kd4⟩ := KO.cells HK4.out
    obtain ⟨kc8, kd8⟩ := KO.cells HK8.out
    rw [HWW.out.1] at kc4 kd4 kc8 kd8
    rw [HWW.out.2] at kc8 kd8
    clear r4 r4e r6 r6e r8 r8e HS3
    go_wp2_with fail
    rw [← HWW.out.1, ← HWW.out.2]
    clear kc4 kd4 kc8 kd8 HWW
    refine (samekey_any a2 n c2 a3 m c3 a6 c6 a7 c7 N3 E3 _ HN.out.symm (by omega) HM.out.symm (by omega) R4.out.1 R4.out.2 R8.out.1 R8.out.2).mono ?_
    rintro e w5 ⟨rfl, hb⟩
    have HS := Lib.hid (HS.out.belowS hb)
    have HX := Lib.hid (HX.out.trans (hb.mono HX.out.size))
    have HK4 := Lib.hid (KO.below HK4.out hb)
    have HK6 := Lib.hid (KO.below HK6.out hb)
    have HK8 := Lib.hid (KO.below HK8.out hb)
    have R6 := Lib.hid (And.intro (R6.out.1.below hb) (R6.out.2.below hb))
    have R8 := Lib.hid (And.intro (R8.out.1.below hb) (R8.out.2.below hb))
    obtain ⟨kc6, kd6⟩ := KO.cells HK6.out
    obtain ⟨kc8, kd8⟩ := KO.cells HK8.out
    clear hb R4
    go_wp2_with fail
    clear kc6 kd6 kc8 kd8
    refine (samekey_any a4 n c4 a5 m c5 a6 c6 a7 c7 N3 E3 _ HN.out.symm (by omega) HM.out.symm (by omega) R6.out.1 R6.out.2 R8.out.1 R8.out.2).mono ?_
    rintro e w6 ⟨rfl, hb⟩
    have HS := Lib.hid (HS.out.belowS hb)
    have HX := Lib.hid (HX.out.trans (hb.mono HX.out.size))
    have HK4 := Lib.hid (KO.below HK4.out hb)
    have HK6 := Lib.hid (KO.below HK6.out hb)
    clear hb R6 R8 HK8
    have hsep : Sep w6 w1.heap.size (rwNo :: rwNo8 :: ([rw64 (.slice a2 n c2) N3, rw64 (.slice a3 m c3) E3, rw64 (.slice a4 n c4) N3, rw64 (.slice a5 m c5) E3] ++ [])) :=
      ((Sep.perm HS.out (by
        show List.Perm [rw64 (.slice a4 n c4) N3, rw64 (.slice a5 m c5) E3, rw64 (.slice a2 n c2) N3, rw64 (.slice a3 m c3) E3] [rw64 (.slice a2 n c2) N3, rw64 (.slice a3 m c3) E3, rw64 (.slice a4 n c4) N3, rw64 (.slice a5 m c5) E3]
        exact List.perm_append_comm (l₁ := [rw64 (.slice a4 n c4) N3, rw64 (.slice a5 m c5) E3]) (l₂ := [rw64 (.slice a2 n c2) N3, rw64 (.slice a3 m c3) E3]))).nilRow _).nilRow _
    have hbok := Bok.start (T := 34) hsep HX.out.size rfl
    have hb7 := (Below.refl w6.heap.size w6).alloc (Nat.le_refl _) (.cells #[.slice none 0 0, .slice none 0 0] 34)
    have HK := Lib.hid hbok
    have hk4 := KO.below HK4.out hb7
    have hk6 := KO.below HK6.out hb7
    have g4lt := lt_of_block HK4.out
    have g6lt := lt_of_block HK6.out
    have HX7 := Lib.hid (HX.out.trans (hb7.mono HX.out.size))
    have HK4 := Lib.hid hk4
    have HK6 := Lib.hid hk6
    have hszX := HX.out.size
    obtain ⟨kc4, kd4⟩ := KO.cells hk4
    clear hbok hsep hb7 hk4 hk6 HS
    go_wp2_with fail
    clear kc4 kd4
    refine (bookKey_any HK.out a2 n c2 a3 m c3 (by decide)).mono ?_
    rintro e w7 ⟨rfl, ⟨vb0, hbok⟩, hb7⟩
    have HK := Lib.hid hbok
    have hk6 : w7.heap[g6]? = some (KO (.slice a4 n c4) (.slice a5 m c5)) := by rw [hb7.block _ g6lt]; exact HK6.out
    have HX8 := Lib.hid (HX7.out.trans (hb7.mono hszX))
    obtain ⟨kc6, kd6⟩ := KO.cells hk6
    clear hbok hb7 hk6
    go_wp2_with fail
    clear kc6 kd6
    refine (bookKey_any HK.out a4 n c4 a5 m c5 (by simp)).mono ?_
    rintro e w8 ⟨rfl, ⟨vb1, hbok⟩, hb7⟩
    have HK := Lib.hid hbok
    have HX9 := Lib.hid (HX8.out.trans (hb7.mono hszX))
    clear hbok hb7
    go_wp2_with fail
    refine (Bok.apart (WL := [rw64 (.slice a2 n c2) N3, rw64 (.slice a3 m c3) E3, rw64 (.slice a4 n c4) N3, rw64 (.slice a5 m c5) E3]) (BL := []) HK.out (fun s hs => ?_) (fun s hs => by cases hs) (by simp) (by decide)).mono ?_
    · simp only [List.mem_cons, List.mem_nil_iff, or_false] at hs
      rcases hs with rfl | rfl | rfl | rfl <;> exact ⟨rfl, by simp only [rw64]; have := HN.out; have := HM.out; omega⟩
    rintro e w9 ⟨rfl, hb9⟩
    have HXF := Lib.hid (HX9.out.trans hb9)
    have HLF := Lib.hid ((Chg.of_below HXF.out).owns HL1.out (fun k hk => by have := (World.ownsRow.lt HL1.out k hk).2; omega))
    clear hb9 HK
    go_wp2_with fail
    refine (keptBytes_any a w.heap.size g len cap c1 b _ HLE.out (by omega) (HR1.out.below HXF.out) HLF.out).mono ?_
    rintro e w10 ⟨rfl, rfl⟩
    have HBF := Lib.hid (HBW1.out.trans (HXF.out.mono HBW1.out.size))
    go_wp2_with fail
    refine (works7_any _).mono ?_
    rintro e w11 ⟨rfl, hb⟩
    have HBG := Lib.hid (HBF.out.trans (hb.mono HBF.out.size))
    clear hb
    go_wp2
    go_ret
    exact ⟨rfl, HBG.out⟩
end Go.Proofs.Ytkghgfiindpcjaa
