import Derived.Test.YthccccpcjafdcaaDoorBkI
namespace Go.Proofs.YthccccpcjafdcaaDoor
open Go.RowKit

set_option maxHeartbeats 4000000 in
set_option maxRecDepth 100000 in
theorem apart_any (B bk T nw nb : Nat) (vw vb : Value) (S U : Nat → Value) (N M : Nat → Nat) (r : Nat → Rw) (w : World) (hI : BkI w w B bk T nw nb vw vb S U N M r) (hP : Ph1 nw nb S U N M 0 r)
    (hN : ∀ i, N i ≤ 1099511627776) (hM : ∀ i, M i ≤ 1099511627776) (hnw : nw ≤ 1099511627776) (hnb : nb ≤ 1099511627776) (hBw : B ≤ w.heap.size) :
    Calls Tryd.prog 19 #[.pointer (some ⟨bk, 0, none⟩)] w fun e w' => e = .returned (.bool true) ∧ Chg (fun k => B ≤ k) w w' := by
  go_enter Tryd.func19, Tryd.ntmps19
  go_wp2
  go_loopw [3] (fun i wr => ∃ k r, k ≤ nw ∧ i = .int .i64 (k : Nat) ∧ BkI w wr B bk T nw nb vw vb S U N M r ∧ Ph1 nw nb S U N M k r) (fun i _ => nw - (intOf i).toNat)
  case atStart => exact ⟨0, r, Nat.zero_le _, rfl, hI, hP⟩
  case round =>
    clear hI hP
    obtain ⟨k, r1, hk, rfl, hI1, hP1⟩ := hrel
    have hc0 := hI1.c0
    by_cases hlt : k < nw
    · obtain ⟨gw, cw, rfl, _, _⟩ := owns_some hI1.own0 (show 0 < nw by omega)
      go_wp2
      obtain ⟨wo, rfl⟩ : ∃ wo : World, wo = wr := ⟨_, rfl⟩
      go_loopw [4] (fun i wr => ∃ j r, j ≤ N k ∧ i = .int .i64 (j : Nat) ∧ BkI w wr B bk T nw nb (.slice (some ⟨gw, 0, none⟩) nw cw) vb S U N M r ∧ Ph1 nw nb S U N M k r ∧ (r (4 + k)).xs.take j = (ms64 k (N k)).take j) (fun i _ => N k - (intOf i).toNat)
      case atStart => exact ⟨0, r1, Nat.zero_le _, rfl, hI1, hP1, by simp⟩
      case round =>
        clear hI1 hP1 hc0
        obtain ⟨j, r2, hj, rfl, hI2, hP2, hT⟩ := hrel
        have hc0 := hI2.c0
        have hck : wr.cell? ⟨gw, k, none⟩ = some (S k) := by rw [hI2.own0.cellAt k (by omega)]; simp [hlt]
        have hrow := hI2.fam.own (4 + k) (by omega)
        have hx := hP2.1.1 k hlt
        rw [hx.1, hx.2] at hrow
        have hNk := hN k
        by_cases hlt2 : j < N k
        · obtain ⟨g, c, hSk, _, _⟩ := owns_some hrow (by omega)
          rw [hSk] at hck hrow
          have hcs : wr.cell? ⟨g, j, none⟩ = some ((r2 (4 + k)).xs.getD j undef) := by
            rw [hrow.cellAt j (by omega)]; simp [List.getD, hrow.1, hlt2]
          have hf : wr.frozen? ⟨g, j, none⟩ = false := hrow.frozenAt j
          generalize (r2 (4 + k)).xs.getD j undef = u0 at hcs
          have HI := Lib.hid hI2
          have HP := Lib.hid hP2
          have HT := Lib.hid hT
          have HX := Lib.hid hx
          have HK := Lib.hid hSk
          have HR := Lib.hid hrow
          clear hI2 hP2 hT hx hSk hrow
          go_wp2
          go_still_tail 12, (by kernel_rfl)
          still_call (mark_q _ _ _)
          repeat still_step
          refine wpStill_nil ?_
          go_wp2
          go_roundw
          case rel =>
            exact ⟨j + 1, updR r2 (4 + k) { r2 (4 + k) with xs := (r2 (4 + k)).xs.set j ((fun j => Value.int .u64 (mk k (j : Nat))) j) }, by omega, by go_num, (HI.out.store (p := 4 + k) (by omega) (by omega) (HX.out.1.trans HK.out) HX.out.2 j _).drew, HP.out.set (Nat.le_refl _) _,
              by rw [updR_same]; exact take_set_mark _ (fun j => Value.int .u64 (mk k (j : Nat))) _ j (by have := HR.out.1; omega) hlt2 HT.out⟩
          case measure => simp [intOf]; omega
        · obtain rfl : j = N k := by omega
          obtain ⟨a, c, hSk⟩ := owns_form hrow
          rw [hSk] at hck
          have hfull : (r2 (4 + k)).xs = ms64 k (N k) := by
            have h1 : (r2 (4 + k)).xs.length = N k := by have := hrow.1; omega
            rw [List.take_of_length_le (by omega), List.take_of_length_le (by simp [ms64])] at hT
            exact hT
          have HI := Lib.hid hI2
          have HP := Lib.hid hP2
          have HF := Lib.hid hfull
          clear hI2 hP2 hT hx hSk hrow hfull
          go_wp2
          go_roundw
          case rel =>
            exact ⟨k + 1, r2, by omega, by go_num, HI.out, ⟨HP.out.1, HP.out.2.1, HP.out.2.2.1, fun i hi => by rcases Nat.lt_succ_iff_lt_or_eq.1 hi with h | rfl; exact HP.out.2.2.2 i h; exact HF.out⟩⟩
          case measure => simp [intOf]; omega
    · obtain rfl : nw = k := by omega
      obtain ⟨aw, cw, rfl⟩ := owns_form hI1.own0
      go_wp2
      obtain ⟨wo, rfl⟩ : ∃ wo : World, wo = wr := ⟨_, rfl⟩
      go_loopw [5] (fun i wr => ∃ k r, k ≤ nb ∧ i = .int .i64 (k : Nat) ∧ BkI w wr B bk T nw nb (.slice aw nw cw) vb S U N M r ∧ Ph2 nw nb S U N M k r) (fun i _ => nb - (intOf i).toNat)
      case atStart => exact ⟨0, r1, Nat.zero_le _, rfl, hI1, hP1, fun i h => by omega⟩
      case round =>
        clear hI1 hP1 hc0
        obtain ⟨k, r1, hk, rfl, hI1, hP1⟩ := hrel
        have hc0 := hI1.c1
        by_cases hlt : k < nb
        · obtain ⟨gb, cb, rfl, _, _⟩ := owns_some hI1.own1 (show 0 < nb by omega)
          go_wp2
          obtain ⟨wo, rfl⟩ : ∃ wo : World, wo = wr := ⟨_, rfl⟩
          go_loopw [6] (fun i wr => ∃ j r, j ≤ M k ∧ i = .int .i64 (j : Nat) ∧ BkI w wr B bk T nw nb (.slice aw nw cw) (.slice (some ⟨gb, 0, none⟩) nb cb) S U N M r ∧ Ph2 nw nb S U N M k r ∧ (r (4 + nw + k)).xs.take j = (ms8 k (M k)).take j) (fun i _ => M k - (intOf i).toNat)
          case atStart => exact ⟨0, r1, Nat.zero_le _, rfl, hI1, hP1, by simp⟩
          case round =>
            clear hI1 hP1 hc0
            obtain ⟨j, r2, hj, rfl, hI2, hP2, hT⟩ := hrel
            have hc0 := hI2.c1
            have hck : wr.cell? ⟨gb, k, none⟩ = some (U k) := by rw [hI2.own1.cellAt k (by omega)]; simp [hlt]
            have hrow := hI2.fam.own (4 + nw + k) (by omega)
            have hx := hP2.1.1.2.1 k hlt
            rw [hx.1, hx.2] at hrow
            have hNk := hM k
            by_cases hlt2 : j < M k
            · obtain ⟨g, c, hSk, _, _⟩ := owns_some hrow (by omega)
              rw [hSk] at hck hrow
              have hcs : wr.cell? ⟨g, j, none⟩ = some ((r2 (4 + nw + k)).xs.getD j undef) := by
                rw [hrow.cellAt j (by omega)]; simp [List.getD, hrow.1, hlt2]
              have hf : wr.frozen? ⟨g, j, none⟩ = false := hrow.frozenAt j
              generalize (r2 (4 + nw + k)).xs.getD j undef = u0 at hcs
              have HI := Lib.hid hI2
              have HP := Lib.hid hP2
              have HT := Lib.hid hT
              have HX := Lib.hid hx
              have HK := Lib.hid hSk
              have HR := Lib.hid hrow
              clear hI2 hP2 hT hx hSk hrow
              go_wp2
              go_still_tail 13, (by kernel_rfl)
              still_call (mark_q _ _ _)
              repeat still_step
              refine wpStill_nil ?_
              go_wp2
              go_roundw
              case rel =>
                exact ⟨j + 1, updR r2 (4 + nw + k) { r2 (4 + nw + k) with xs := (r2 (4 + nw + k)).xs.set j ((fun j => Value.int .u8 (IntKind.u8.wrap (mk k (j : Nat)))) j) }, by omega, by go_num, (HI.out.store (p := 4 + nw + k) (by omega) (by omega) (HX.out.1.trans HK.out) HX.out.2 j _).drew, HP.out.set _,
                  by rw [updR_same]; exact take_set_mark _ (fun j => Value.int .u8 (IntKind.u8.wrap (mk k (j : Nat)))) _ j (by have := HR.out.1; omega) hlt2 HT.out⟩
              case measure => simp [intOf]; omega
            · obtain rfl : j = M k := by omega
              obtain ⟨a, c, hSk⟩ := owns_form hrow
              rw [hSk] at hck
              have hfull : (r2 (4 + nw + k)).xs = ms8 k (M k) := by
                have h1 : (r2 (4 + nw + k)).xs.length = M k := by have := hrow.1; omega
                rw [List.take_of_length_le (by omega), List.take_of_length_le (by simp [ms8])] at hT
                exact hT
              have HI := Lib.hid hI2
              have HP := Lib.hid hP2
              have HF := Lib.hid hfull
              clear hI2 hP2 hT hx hSk hrow hfull
              go_wp2
              go_roundw
              case rel =>
                exact ⟨k + 1, r2, by omega, by go_num, HI.out, ⟨HP.out.1, fun i hi => by rcases Nat.lt_succ_iff_lt_or_eq.1 hi with h | rfl; exact HP.out.2 i h; exact HF.out⟩⟩
              case measure => simp [intOf]; omega
        · obtain rfl : nb = k := by omega
          obtain ⟨ab, cb, rfl⟩ := owns_form hI1.own1
          go_wp2
          obtain ⟨wo, rfl⟩ : ∃ wo : World, wo = wr := ⟨_, rfl⟩
          go_loopw [7, 8] (fun V i wr => ∃ k r, k ≤ nw ∧ i = .int .i64 (k : Nat) ∧ BkI w wr B bk T nw nb (.slice aw nw cw) (.slice ab nb cb) S U N M r ∧ Ph3 nw nb S U N M k V r) (fun _ i _ => nw - (intOf i).toNat)
          case atStart => exact ⟨0, r1, Nat.zero_le _, rfl, hI1, hP1.ph3⟩
          case round =>
            clear hI1 hP1 hc0
            obtain ⟨k, r1, hk, rfl, hI1, hP1⟩ := hrel
            have hc0 := hI1.c0
            by_cases hlt : k < nw
            · obtain ⟨gw, cx, hv, _, _⟩ := owns_some hI1.own0 (show 0 < nw by omega)
              cases hv
              have hck : wr.cell? ⟨gw, k, none⟩ = some (S k) := by rw [hI1.own0.cellAt k (by omega)]; simp [hlt]
              obtain ⟨ak, ck, hSk⟩ : ∃ a c, S k = .slice a (N k) c := by
                have hrow := hI1.fam.own (4 + k) (by omega)
                have hx := (hP1.start hlt).2.2.1
                rw [hx.1, hx.2.1] at hrow
                exact owns_form hrow
              have HP1 := Lib.hid (hP1.start hlt)
              rw [hSk] at hck HP1
              have HSk := Lib.hid hSk
              have HI1 := Lib.hid hI1
              clear hP1 hSk hI1
              go_wp2
              have hI1 := HI1.out
              have hP1 := HP1.out
              clear HI1 HP1
              obtain ⟨wo, rfl⟩ : ∃ wo : World, wo = wr := ⟨_, rfl⟩
              go_loopw [9, 10] (fun v i wr => ∃ j r, j ≤ 64 ∧ i = .int .i64 (j : Nat) ∧ BkI w wr B bk T nw nb (.slice (some ⟨gw, 0, none⟩) nw cw) (.slice ab nb cb) S U N M r ∧ Ph3i nw nb S U N M k j u7 v r) (fun _ i _ => 64 - (intOf i).toNat)
              case atStart => exact ⟨0, r1, Nat.zero_le _, rfl, hI1, hP1⟩
              case round =>
                clear hI1 hP1 hc0 hck
                obtain ⟨j, r2, hj, rfl, hI2, hP2⟩ := hrel
                have hc0 := hI2.c0
                have hck : wr.cell? ⟨gw, k, none⟩ = some (.slice ak (N k) ck) := by rw [hI2.own0.cellAt k (by omega), ← HSk.out]; simp [hlt]
                have hrow := hI2.fam.own (4 + k) (by omega)
                have hx := hP2.2.2.1
                rw [hx.1, hx.2.1, hx.2.2, hI2.rw k hlt] at hrow
                have hNk := hN k
                have hBs : B ≤ wr.heap.size := Nat.le_trans hBw hI2.chg.size
                have HI := Lib.hid hI2
                have HP := Lib.hid hP2
                have HX := Lib.hid hx
                by_cases hlt2 : j < 64
                · clear hI2 hP2 hx
                  go_wp2_with (first
                    | (go_at_call 36; refine (mark_any _ _ _).mono ?_; rintro e w' ⟨rfl, rfl⟩)
                    | (at_builtin; refine wpl_app 22 57 Tryd.underlying22 info64 rfl (by decide) rfl _ _ rfl B _ (N k + j) (ms64 k (N k + j)) rfl (hrow.alloc _) wr.heap.size (.int .u64 (mk k ((N k : Int) + (j : Int)))) rfl (World.cell?_alloc_at _ _ _ _ rfl) rfl (by omega) (by simp; omega) ?_))
                  intro g cap' w1 hown1 hg1 hBg hgl hgo
                  go_wp2
                  go_roundw
                  case rel =>
                    refine ⟨j + 1, updR r2 (4 + k) ⟨.slice (some ⟨g, 0, none⟩) (N k + j + 1) cap', (r2 (4 + k)).E, N k + j + 1, ms64 k (N k + j) ++ [.int .u64 (mk k ((N k : Int) + (j : Int)))]⟩, by omega, by go_num, ?_, HP.out.step hlt _⟩
                    refine HI.out.app (by omega) (by omega) (((Chg.refl _ _).alloc _).trans (Chg.of_grown (by rw [HX.out.1]; exact hg1))) (by rw [HI.out.rw k hlt]; exact hown1) ?_
                    rw [HX.out.1]
                    rcases hgo with h | h
                    · exact .inl h
                    · right; omega
                  case measure => simp [intOf]; omega
                · obtain rfl : j = 64 := by omega
                  have hr2 := hI2.fam.own 2 (by omega)
                  have hr2e := hP2.2.2.2.2.1
                  rw [hr2e] at hr2
                  obtain ⟨a2, c2, rfl⟩ := owns_form hrow
                  have HR2 := Lib.hid hr2e
                  clear hI2 hP2 hx hr2e
                  go_wp2_with (at_builtin; refine wpl_app 32 22 Tryd.underlying32 infoL64 rfl (by decide) rfl _ _ rfl B _ k _ rfl (hr2.alloc _) wr.heap.size (.slice a2 (N k + 64) c2) rfl (World.cell?_alloc_at _ _ _ _ rfl) rfl (by omega) (by simp; omega) ?_)
                  intro g cap' w1 hown1 hg1 hBg hgl hgo
                  go_wp2
                  go_roundw
                  case rel =>
                    refine ⟨k + 1, updR r2 2 ⟨.slice (some ⟨g, 0, none⟩) (k + 1) cap', (r2 2).E, k + 1, (r2 2).xs ++ [.slice a2 (N k + 64) c2]⟩, by omega, by go_num, ?_, HP.out.done _⟩
                    refine HI.out.app (by omega) (by omega) (((Chg.refl _ _).alloc _).trans (Chg.of_grown (by rw [HR2.out]; exact hg1))) (by rw [HR2.out]; exact hown1) ?_
                    rw [HR2.out]
                    rcases hgo with h | h
                    · exact .inl h
                    · right; omega
                  case measure => simp [intOf]; omega
            · obtain rfl : nw = k := by omega
              go_wp2
              obtain ⟨wo, rfl⟩ : ∃ wo : World, wo = wr := ⟨_, rfl⟩
              go_loopw [11, 12] (fun V i wr => ∃ k r, k ≤ nb ∧ i = .int .i64 (k : Nat) ∧ BkI w wr B bk T nw nb (.slice aw nw cw) (.slice ab nb cb) S U N M r ∧ Ph4 nw nb U N M k u7 V r) (fun _ i _ => nb - (intOf i).toNat)
              case atStart => exact ⟨0, r1, Nat.zero_le _, rfl, hI1, hP1.ph4⟩
              case round =>
                clear hI1 hP1 hc0
                obtain ⟨k, r1, hk, rfl, hI1, hP1⟩ := hrel
                have hc0 := hI1.c1
                by_cases hlt : k < nb
                · obtain ⟨gb, cx, hv, _, _⟩ := owns_some hI1.own1 (show 0 < nb by omega)
                  cases hv
                  have hck : wr.cell? ⟨gb, k, none⟩ = some (U k) := by rw [hI1.own1.cellAt k (by omega)]; simp [hlt]
                  obtain ⟨ak, ck, hSk⟩ : ∃ a c, U k = .slice a (M k) c := by
                    have hrow := hI1.fam.own (4 + nw + k) (by omega)
                    have hx := (hP1.start hlt).2.2.1
                    rw [hx.1, hx.2.1] at hrow
                    exact owns_form hrow
                  have HP1 := Lib.hid (hP1.start hlt)
                  rw [hSk] at hck HP1
                  have HSk := Lib.hid hSk
                  have HI1 := Lib.hid hI1
                  clear hP1 hSk hI1
                  go_wp2
                  have hI1 := HI1.out
                  have hP1 := HP1.out
                  clear HI1 HP1
                  obtain ⟨wo, rfl⟩ : ∃ wo : World, wo = wr := ⟨_, rfl⟩
                  go_loopw [13, 14] (fun v i wr => ∃ j r, j ≤ 64 ∧ i = .int .i64 (j : Nat) ∧ BkI w wr B bk T nw nb (.slice aw nw cw) (.slice (some ⟨gb, 0, none⟩) nb cb) S U N M r ∧ Ph4i nw nb U N M k j u7 u11 v r) (fun _ i _ => 64 - (intOf i).toNat)
                  case atStart => exact ⟨0, r1, Nat.zero_le _, rfl, hI1, hP1⟩
                  case round =>
                    clear hI1 hP1 hc0 hck
                    obtain ⟨j, r2, hj, rfl, hI2, hP2⟩ := hrel
                    have hc0 := hI2.c1
                    have hck : wr.cell? ⟨gb, k, none⟩ = some (.slice ak (M k) ck) := by rw [hI2.own1.cellAt k (by omega), ← HSk.out]; simp [hlt]
                    have hrow := hI2.fam.own (4 + nw + k) (by omega)
                    have hx := hP2.2.2.1
                    rw [hx.1, hx.2.1, hx.2.2, hI2.rb k hlt] at hrow
                    have hNk := hM k
                    have hBs : B ≤ wr.heap.size := Nat.le_trans hBw hI2.chg.size
                    have HI := Lib.hid hI2
                    have HP := Lib.hid hP2
                    have HX := Lib.hid hx
                    by_cases hlt2 : j < 64
                    · clear hI2 hP2 hx
                      go_wp2_with (first
                        | (go_at_call 36; refine (mark_any _ _ _).mono ?_; rintro e w' ⟨rfl, rfl⟩)
                        | (at_builtin; refine wpl_app 29 5 Tryd.underlying29 info8 rfl (by decide) rfl _ _ rfl B _ (M k + j) (ms8 k (M k + j)) rfl (hrow.alloc _) wr.heap.size (.int .u8 (IntKind.u8.wrap (mk k ((M k : Int) + (j : Int))))) rfl (World.cell?_alloc_at _ _ _ _ rfl) rfl (by omega) (by simp; omega) ?_))
                      intro g cap' w1 hown1 hg1 hBg hgl hgo
                      go_wp2
                      go_roundw
                      case rel =>
                        refine ⟨j + 1, updR r2 (4 + nw + k) ⟨.slice (some ⟨g, 0, none⟩) (M k + j + 1) cap', (r2 (4 + nw + k)).E, M k + j + 1, ms8 k (M k + j) ++ [.int .u8 (IntKind.u8.wrap (mk k ((M k : Int) + (j : Int))))]⟩, by omega, by go_num, ?_, HP.out.step  _⟩
                        refine HI.out.app (by omega) (by omega) (((Chg.refl _ _).alloc _).trans (Chg.of_grown (by rw [HX.out.1]; exact hg1))) (by rw [HI.out.rb k hlt]; exact hown1) ?_
                        rw [HX.out.1]
                        rcases hgo with h | h
                        · exact .inl h
                        · right; omega
                      case measure => simp [intOf]; omega
                    · obtain rfl : j = 64 := by omega
                      have hr2 := hI2.fam.own 3 (by omega)
                      have hr2e := hP2.2.2.2.2.2
                      rw [hr2e] at hr2
                      obtain ⟨a2, c2, rfl⟩ := owns_form hrow
                      have HR2 := Lib.hid hr2e
                      clear hI2 hP2 hx hr2e
                      go_wp2_with (at_builtin; refine wpl_app 33 29 Tryd.underlying33 infoL8 rfl (by decide) rfl _ _ rfl B _ k _ rfl (hr2.alloc _) wr.heap.size (.slice a2 (M k + 64) c2) rfl (World.cell?_alloc_at _ _ _ _ rfl) rfl (by omega) (by simp; omega) ?_)
                      intro g cap' w1 hown1 hg1 hBg hgl hgo
                      go_wp2
                      go_roundw
                      case rel =>
                        refine ⟨k + 1, updR r2 3 ⟨.slice (some ⟨g, 0, none⟩) (k + 1) cap', (r2 3).E, k + 1, (r2 3).xs ++ [.slice a2 (M k + 64) c2]⟩, by omega, by go_num, ?_, HP.out.done _⟩
                        refine HI.out.app (by omega) (by omega) (((Chg.refl _ _).alloc _).trans (Chg.of_grown (by rw [HR2.out]; exact hg1))) (by rw [HR2.out]; exact hown1) ?_
                        rw [HR2.out]
                        rcases hgo with h | h
                        · exact .inl h
                        · right; omega
                      case measure => simp [intOf]; omega
                · obtain rfl : nb = k := by omega
                  go_wp2
                  obtain ⟨wo, rfl⟩ : ∃ wo : World, wo = wr := ⟨_, rfl⟩
                  have HP := Lib.hid hP1
                  clear hP1
                  go_loopw [15] (fun i wr => ∃ k : Nat, k ≤ nw ∧ i = .int .i64 k ∧ BkI w wr B bk T nw nb (.slice aw nw cw) (.slice ab nb cb) S U N M r1) (fun i _ => nw - (intOf i).toNat)
                  case atStart => exact ⟨0, Nat.zero_le _, rfl, hI1⟩
                  case round =>
                    clear hI1
                    obtain ⟨k, hk, rfl, hI1⟩ := hrel
                    have hown2 := hI1.fam.own 2 (by omega)
                    rw [HP.out.2.2.2.1] at hown2
                    dsimp only at hown2
                    by_cases hlt : k < nw
                    · obtain ⟨g2, c2, rfl, _, _⟩ := owns_some hown2 (show 0 < nw by omega)
                      have HI := Lib.hid hI1
                      have HO := Lib.hid hown2
                      clear hI1 hown2
                      go_wp2
                      obtain ⟨wo, rfl⟩ : ∃ wo : World, wo = wr := ⟨_, rfl⟩
                      go_loopw [16] (fun i wr => ∃ j : Nat, j ≤ N k + 64 ∧ i = .int .i64 j ∧ BkI w wr B bk T nw nb (.slice aw nw cw) (.slice ab nb cb) S U N M r1) (fun i _ => N k + 64 - (intOf i).toNat)
                      case atStart => exact ⟨0, Nat.zero_le _, rfl, HI.out⟩
                      case round =>
                        clear HI HO
                        obtain ⟨j, hj, rfl, hI1⟩ := hrel
                        have hown2 := hI1.fam.own 2 (by omega)
                        rw [HP.out.2.2.2.1] at hown2
                        dsimp only at hown2
                        have hck : wr.cell? ⟨g2, k, none⟩ = some ((r1 (4 + k)).v) := by rw [hown2.cellAt k (by omega)]; simp [hlt]
                        have hrow := hI1.fam.own (4 + k) (by omega)
                        have hx := HP.out.1 k hlt
                        rw [hx.1, hx.2] at hrow
                        have hNk := hN k
                        have HI := Lib.hid hI1
                        by_cases hlt2 : j < N k + 64
                        · obtain ⟨g, c, hv, _, _⟩ := owns_some hrow (by omega)
                          rw [hv] at hck hrow
                          have hcs := hrow.cellAt j (by omega)
                          rw [ms64_get _ _ _ hlt2] at hcs
                          clear hI1 hown2 hrow hx hv
                          go_wp2
                          go_quiet ((go_at_call 36; exact Calls.quiet_of_same (mark_q _ _ _)))
                          go_wp2
                          go_roundw
                          case rel => exact ⟨j + 1, by omega, by go_num, HI.out.still ((Chg.refl _ _).drewN _)⟩
                          case measure => simp [intOf]; omega
                        · obtain rfl : j = N k + 64 := by omega
                          obtain ⟨a, c, hv⟩ := owns_form hrow
                          rw [hv] at hck
                          clear hI1 hown2 hrow hx hv
                          go_wp2
                          go_roundw
                          case rel => exact ⟨k + 1, by omega, by go_num, HI.out⟩
                          case measure => simp [intOf]; omega
                    · obtain rfl : nw = k := by omega
                      obtain ⟨a2, c2, rfl⟩ := owns_form hown2
                      clear hown2
                      go_wp2
                      obtain ⟨wo, rfl⟩ : ∃ wo : World, wo = wr := ⟨_, rfl⟩
                      go_loopw [17] (fun i wr => ∃ k : Nat, k ≤ nb ∧ i = .int .i64 k ∧ BkI w wr B bk T nw nb (.slice aw nw cw) (.slice ab nb cb) S U N M r1) (fun i _ => nb - (intOf i).toNat)
                      case atStart => exact ⟨0, Nat.zero_le _, rfl, hI1⟩
                      case round =>
                        clear hI1
                        obtain ⟨k, hk, rfl, hI1⟩ := hrel
                        have hown2 := hI1.fam.own 3 (by omega)
                        rw [HP.out.2.2.2.2] at hown2
                        dsimp only at hown2
                        by_cases hlt : k < nb
                        · obtain ⟨g2, c2, rfl, _, _⟩ := owns_some hown2 (show 0 < nb by omega)
                          have HI := Lib.hid hI1
                          have HO := Lib.hid hown2
                          clear hI1 hown2
                          go_wp2
                          obtain ⟨wo, rfl⟩ : ∃ wo : World, wo = wr := ⟨_, rfl⟩
                          go_loopw [18] (fun i wr => ∃ j : Nat, j ≤ M k + 64 ∧ i = .int .i64 j ∧ BkI w wr B bk T nw nb (.slice aw nw cw) (.slice ab nb cb) S U N M r1) (fun i _ => M k + 64 - (intOf i).toNat)
                          case atStart => exact ⟨0, Nat.zero_le _, rfl, HI.out⟩
                          case round =>
                            clear HI HO
                            obtain ⟨j, hj, rfl, hI1⟩ := hrel
                            have hown2 := hI1.fam.own 3 (by omega)
                            rw [HP.out.2.2.2.2] at hown2
                            dsimp only at hown2
                            have hck : wr.cell? ⟨g2, k, none⟩ = some ((r1 (4 + nw + k)).v) := by rw [hown2.cellAt k (by omega)]; simp [hlt]
                            have hrow := hI1.fam.own (4 + nw + k) (by omega)
                            have hx := HP.out.2.2.1 k hlt
                            rw [hx.1, hx.2] at hrow
                            have hNk := hM k
                            have HI := Lib.hid hI1
                            by_cases hlt2 : j < M k + 64
                            · obtain ⟨g, c, hv, _, _⟩ := owns_some hrow (by omega)
                              rw [hv] at hck hrow
                              have hcs := hrow.cellAt j (by omega)
                              rw [ms8_get _ _ _ hlt2] at hcs
                              clear hI1 hown2 hrow hx hv
                              go_wp2
                              go_quiet ((go_at_call 36; exact Calls.quiet_of_same (mark_q _ _ _)))
                              go_wp2
                              go_roundw
                              case rel => exact ⟨j + 1, by omega, by go_num, HI.out.still ((Chg.refl _ _).drewN _)⟩
                              case measure => simp [intOf]; omega
                            · obtain rfl : j = M k + 64 := by omega
                              obtain ⟨a, c, hv⟩ := owns_form hrow
                              rw [hv] at hck
                              clear hI1 hown2 hrow hx hv
                              go_wp2
                              go_roundw
                              case rel => exact ⟨k + 1, by omega, by go_num, HI.out⟩
                              case measure => simp [intOf]; omega
                        · obtain rfl : nb = k := by omega
                          obtain ⟨a2, c2, rfl⟩ := owns_form hown2
                          clear hown2
                          go_wp2
                          go_ret
                          exact ⟨rfl, hI1.chg⟩
end Go.Proofs.YthccccpcjafdcaaDoor
