import Derived.Test.YthhchpmlljfpjaaGreatMP2
namespace Go.Proofs.YthhchpmlljfpjaaGreat
open Go.RowKit

/-! spread: the states at a place. -/
set_option maxHeartbeats 4000000 in
set_option maxRecDepth 100000 in
theorem m_spread (rb l1 i1 l2 n2 i2 q c p : Nat) (L : List St) (a : Option Addr) (s : ByteArray) (X : List Nat) (w : World) (hm : MachOk L q)
    (hb : CB w 79 rb (runC a L.length c q s l1 X.length i1 L.length l2 n2 i2)) (hc : Cw w l1 i1 L.length X) (hn1 : rb ≠ l1) (hn2 : rb ≠ i1)
    (hr : RowAt w a (L.flatMap St.cells)) (ha : ∀ b, a = some b → b.block ≠ rb ∧ b.block ≠ l1 ∧ b.block ≠ i1)
    (hpre : ∀ j, j ∈ addS X q ↔ Seed L q (bsN s) p j) :
    Calls Tryz.prog 41 #[.pointer (some ⟨rb, 0, none⟩), .int .i64 (p : Nat)] w fun e w' =>
      e = .returned (.tuple #[]) ∧ ∃ Y, SprW w w' rb l1 i1 L.length l2 n2 i2 a L.length c q s Y ∧ Crowd L q (bsN s) p Y := by
  obtain ⟨N, hN⟩ : ∃ N, L.length = N := ⟨_, rfl⟩
  have hN4 : N ≤ 4096 := by rw [← hN]; exact hm.len
  have hq : q < N := by rw [← hN]; exact hm.lt
  rw [hN] at hb hc ⊢
  have HM := Lib.hid hm
  have HLN := Lib.hid hN
  have HR := Lib.hid hr
  have HA := Lib.hid ha
  have HW0 : Hid (SprW w w rb l1 i1 N l2 n2 i2 a N c q s X) := ⟨hb, hc, Chg.refl _ _⟩
  have HADD0 := Lib.hid (HW0.out.addW hn1 hn2 q hq)
  have HS0 : Hid (Spr L q (bsN s) p 0 (addS X q)) := ⟨addS_one hc.one, fun j hj => (hpre j).2 hj, fun j hj => ((hpre j).1 hj).at, fun n _ _ hn => absurd hn (Nat.not_lt_zero _)⟩
  have hT : (bsN s).length = s.size := bsN_len s
  have HT := Lib.hid hT
  obtain ⟨c0, c1, c2, c3, c4, -, -⟩ := run7 hb
  clear hm hN hr ha hpre hb hc hT
  go_enter Tryz.func41, Tryz.ntmps41
  go_wp2
  go_region_with (go_at_call 57; refine (HADD0.out _ (by exact ⟨rfl, rfl, rfl, Nat.le_refl _, fun _ _ => rfl⟩)).mono ?_; rintro e w2 ⟨rfl, hz, -⟩; have HZ := Lib.hid hz; clear hz)
  all_goals
    clear c0 c1 c2 c3 c4
    go_wp2
    go_loopw [4] (fun iv wr => ∃ (i : Nat) (Y : List Nat), iv = .int .i64 (i : Nat) ∧ i ≤ Y.length ∧ Hid (Spr L q (bsN s) p i Y) ∧ Hid (SprW w wr rb l1 i1 N l2 n2 i2 a N c q s Y)) (fun iv _ => N - (intOf iv).toNat)
    case atStart => exact ⟨0, _, rfl, Nat.zero_le _, HS0.out, HZ.out⟩
    case round =>
      obtain ⟨i, Y, rfl, hi, HS, HW⟩ := hrel
      obtain ⟨c0, -, c2, c3, -, -, -⟩ := run7 HW.out.box
      have hYN := HW.out.cw.len
      by_cases hlt : i < Y.length
      · obtain ⟨x, hx⟩ : ∃ x, Y[i]? = some x := ⟨_, List.getElem?_eq_getElem hlt⟩
        have hxl : x < L.length := (HS.out.mem x (List.mem_iff_getElem?.2 ⟨i, hx⟩)).lt HM.out
        have hxN : x < N := by rw [← HLN.out]; exact hxl
        obtain ⟨ci, b, off, rfl, hb1, hb2, hb3, hra⟩ := HW.out.reads HR.out HA.out hx hxl
        obtain ⟨st, hst⟩ : ∃ st, L[x]? = some st := ⟨_, List.getElem?_eq_getElem hxl⟩
        have hst2 : L[x] = st := by rw [List.getElem?_eq_getElem hxl] at hst; injection hst
        rw [hst2] at hra
        have hok := HM.out.ok hst
        rw [HLN.out] at hok
        obtain ⟨k, ss, sx, sy⟩ := st
        obtain ⟨r0, -, -, -, -, r5, r6⟩ := range7 hra
        have HX := Lib.hid hx
        have HST := Lib.hid hst
        clear hx hst hst2 hra hxl
        by_cases hk5 : k = 5
        · subst hk5
          have HS2 := Lib.hid (HS.out.no HX.out HST.out (.inr (.inl rfl)))
          go_wp2
          go_quiet (fail)
          go_wp2
          go_roundw
          case rel => exact ⟨i + 1, Y, by go_num, by omega, HS2.out, HW.out.drewN _⟩
          case measure => simp [intOf]; omega
        · have h1234 : 0 ≤ sx ∧ sx < (N : Int) ∧ (k = 1 ∨ k = 2 ∨ k = 3 ∨ k = 4) := okS_x hok hk5
          obtain ⟨xn, rfl⟩ : ∃ n : Nat, sx = n := ⟨sx.toNat, by omega⟩
          have hxn : xn < N := by omega
          have HADD := Lib.hid (HW.out.addW hn1 hn2 xn hxn)
          have hxt : ((xn : Int)).toNat = xn := Int.toNat_natCast xn
          have hlen := addS_len Y xn
          rcases h1234.2.2 with rfl | rfl | rfl | rfl
          · have HS2 := Lib.hid (HS.out.no HX.out HST.out (.inl rfl))
            clear hok HADD h1234
            go_wp2
            go_quiet (fail)
            go_wp2
            go_roundw
            case rel => exact ⟨i + 1, Y, by go_num, by omega, HS2.out, HW.out.drewN _⟩
            case measure => simp [intOf]; omega
          · have hy : 0 ≤ sy ∧ sy < (N : Int) := okS_y hok rfl
            obtain ⟨yn, rfl⟩ : ∃ n : Nat, sy = n := ⟨sy.toNat, by omega⟩
            have hyn : yn < N := by omega
            have hyt : ((yn : Int)).toNat = yn := Int.toNat_natCast yn
            have HS2 := Lib.hid (HS.out.two HX.out HST.out rfl)
            rw [hxt, hyt] at HS2
            have hlen2 := addS_len (addS Y xn) yn
            clear hok h1234 hy
            go_wp2
            go_quiet (fail)
            go_wp2
            go_region_with (go_at_call 57; refine (HADD.out _ (by exact ⟨rfl, rfl, rfl, Nat.le_refl _, fun _ _ => rfl⟩)).mono ?_; rintro e w2 ⟨rfl, hz, hch⟩; have HZ2 := Lib.hid hz; have HCH := Lib.hid hch; clear hz hch)
            all_goals
              have r6b : w2.cell? ⟨b, off + x * 7 + 6, none⟩ = some (.int .i64 (yn : Nat)) := HCH.out.cell r6 fun e => e.elim hb1 fun e => e.elim hb2 hb3
              have HADD2 := Lib.hid (HZ2.out.addW hn1 hn2 yn hyn)
              go_wp2
              go_region_with (go_at_call 57; refine (HADD2.out _ (by exact ⟨rfl, rfl, rfl, Nat.le_refl _, fun _ _ => rfl⟩)).mono ?_; rintro e w3 ⟨rfl, hz, -⟩; have HZ3 := Lib.hid hz; clear hz)
              all_goals
                go_wp2
                go_roundw
                case rel => exact ⟨i + 1, _, by go_num, by omega, HS2.out, HZ3.out⟩
                case measure => simp [intOf]; omega
          · by_cases hp0 : p = 0
            · have HS2 := Lib.hid (HS.out.begin hp0 HX.out HST.out rfl)
              rw [hxt] at HS2
              have hp1 : ((p : Int) == 0) = true := by rw [hp0]; rfl
              clear hok h1234 hp0
              go_wp2
              go_quiet (fail)
              go_wp2
              go_region_with (go_at_call 57; refine (HADD.out _ (by exact ⟨rfl, rfl, rfl, Nat.le_refl _, fun _ _ => rfl⟩)).mono ?_; rintro e w2 ⟨rfl, hz, hch⟩; have HZ2 := Lib.hid hz; have HCH := Lib.hid hch; clear hz hch)
              all_goals
                go_wp2
                go_roundw
                case rel => exact ⟨i + 1, _, by go_num, by omega, HS2.out, HZ2.out⟩
                case measure => simp [intOf]; omega
            · have HS2 := Lib.hid (HS.out.no HX.out HST.out (.inr (.inr (.inl ⟨rfl, hp0⟩))))
              have hp1 : ¬ (p : Int) = 0 := by omega
              clear hok HADD h1234
              go_wp2
              go_quiet (fail)
              go_wp2
              go_roundw
              case rel => exact ⟨i + 1, Y, by go_num, by omega, HS2.out, HW.out.drewN _⟩
              case measure => simp [intOf]; omega
          · by_cases hpe : p = s.size
            · have HS2 := Lib.hid (HS.out.fin (hpe.trans HT.out.symm) HX.out HST.out rfl)
              rw [hxt] at HS2
              have hp1 : ((p : Int) == (s.size : Int)) = true := by rw [hpe]; exact beq_self_eq_true _
              clear hok h1234 hpe
              go_wp2
              go_quiet (fail)
              go_wp2
              go_region_with (go_at_call 57; refine (HADD.out _ (by exact ⟨rfl, rfl, rfl, Nat.le_refl _, fun _ _ => rfl⟩)).mono ?_; rintro e w2 ⟨rfl, hz, hch⟩; have HZ2 := Lib.hid hz; have HCH := Lib.hid hch; clear hz hch)
              all_goals
                go_wp2
                go_roundw
                case rel => exact ⟨i + 1, _, by go_num, by omega, HS2.out, HZ2.out⟩
                case measure => simp [intOf]; omega
            · have HS2 := Lib.hid (HS.out.no HX.out HST.out (.inr (.inr (.inr ⟨rfl, fun h => hpe (h.trans HT.out)⟩))))
              have hp1 : ¬ (p : Int) = (s.size : Int) := by omega
              clear hok HADD h1234
              go_wp2
              go_quiet (fail)
              go_wp2
              go_roundw
              case rel => exact ⟨i + 1, Y, by go_num, by omega, HS2.out, HW.out.drewN _⟩
              case measure => simp [intOf]; omega
      · obtain rfl : i = Y.length := by omega
        go_wp2
        exact bodyPost_end (results_none rfl _ _ _) rfl ⟨rfl, Y, HW.out, HS.out.done⟩
end Go.Proofs.YthhchpmlljfpjaaGreat
