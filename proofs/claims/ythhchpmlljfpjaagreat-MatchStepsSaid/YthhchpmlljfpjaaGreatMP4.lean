import Derived.Test.YthhchpmlljfpjaaGreatMaF
import Derived.Test.YthhchpmlljfpjaaGreatMP1
namespace Go.Proofs.YthhchpmlljfpjaaGreat
open Go.RowKit

section
/-! A run over all places. -/
/-- Which blocks a run has, all apart; S: they all; the states lie elsewhere. -/
structure Ap (S : Nat → Prop) (a : Option Addr) (rb l1 i1 l2 i2 : Nat) : Prop where
  r1 : rb ≠ l1
  r2 : rb ≠ i1
  r3 : rb ≠ l2
  r4 : rb ≠ i2
  x1 : l1 ≠ l2
  x2 : l1 ≠ i2
  x3 : i1 ≠ l2
  x4 : i1 ≠ i2
  s0 : S rb
  s1 : S l1
  s2 : S i1
  s3 : S l2
  s4 : S i2
  far : ∀ b, a = some b → ¬ S b.block
theorem Ap.swap {S : Nat → Prop} {a : Option Addr} {rb l1 i1 l2 i2 : Nat} (h : Ap S a rb l1 i1 l2 i2) : Ap S a rb l2 i2 l1 i1 :=
  ⟨h.r3, h.r4, h.r1, h.r2, h.x1.symm, h.x3.symm, h.x2.symm, h.x4.symm, h.s0, h.s3, h.s4, h.s1, h.s2, h.far⟩
/-- The states at a place, and those at the next one. -/
structure OvW (S : Nat → Prop) (w wr : World) (rb l1 i1 N l2 i2 : Nat) (a : Option Addr) (c q : Nat) (s : ByteArray) (X Z : List Nat) : Prop where
  box : CB wr 79 rb (runC a N c q s l1 X.length i1 N l2 Z.length i2)
  one : Cw wr l1 i1 N X
  two : Cw wr l2 i2 N Z
  chg : Chg S w wr
theorem OvW.drewN {S : Nat → Prop} {w wr : World} {rb l1 i1 N l2 i2 c q : Nat} {a : Option Addr} {s : ByteArray} {X Z : List Nat} (h : OvW S w wr rb l1 i1 N l2 i2 a c q s X Z) (n : Nat) : OvW S w (wr.drewN n) rb l1 i1 N l2 i2 a c q s X Z :=
  ⟨h.box, h.one.below ⟨rfl, rfl, rfl, Nat.le_refl _, fun _ _ => rfl⟩, h.two.below ⟨rfl, rfl, rfl, Nat.le_refl _, fun _ _ => rfl⟩, h.chg.trans ⟨rfl, rfl, rfl, Nat.le_refl _, fun _ _ _ => rfl⟩⟩
theorem OvW.spread {S : Nat → Prop} {w wr w2 : World} {rb l1 i1 N l2 i2 c q : Nat} {a : Option Addr} {s : ByteArray} {X Y Z : List Nat} (h : OvW S w wr rb l1 i1 N l2 i2 a c q s X Z) (ha : Ap S a rb l1 i1 l2 i2) (hz : SprW wr w2 rb l1 i1 N l2 Z.length i2 a N c q s Y) :
    OvW S w w2 rb l1 i1 N l2 i2 a c q s Y Z :=
  ⟨hz.box, hz.cw, h.two.chg hz.chg (fun e => e.elim (fun e => ha.r3 e.symm) fun e => e.elim (fun e => ha.x1 e.symm) fun e => ha.x3 e.symm) (fun e => e.elim (fun e => ha.r4 e.symm) fun e => e.elim (fun e => ha.x2 e.symm) fun e => ha.x4 e.symm),
    h.chg.trans (hz.chg.mono fun _ hi _ => hi.elim (fun e => e ▸ ha.s0) fun e => e.elim (fun e => e ▸ ha.s1) fun e => e ▸ ha.s2)⟩
theorem OvW.read {S : Nat → Prop} {w wr w2 : World} {rb l1 i1 N l2 i2 c q : Nat} {a : Option Addr} {s : ByteArray} {X Y Z : List Nat} {e : Ending} (h : OvW S w wr rb l1 i1 N l2 i2 a c q s X Z) (ha : Ap S a rb l1 i1 l2 i2) (hz : Cret rb 5 l2 i2 N (runC a N c q s l1 X.length i1 N l2 Z.length i2) Y wr e w2) :
    OvW S w w2 rb l1 i1 N l2 i2 a c q s X Y :=
  ⟨hz.2.1, h.one.chg hz.2.2.2 (fun e => e.elim (fun e => ha.r1 e.symm) fun e => e.elim ha.x1 ha.x2) (fun e => e.elim (fun e => ha.r2 e.symm) fun e => e.elim ha.x3 ha.x4), hz.2.2.1,
    h.chg.trans (hz.2.2.2.mono fun _ hi _ => hi.elim (fun e => e ▸ ha.s0) fun e => e.elim (fun e => e ▸ ha.s3) fun e => e ▸ ha.s4)⟩
/-- What is read in a round. -/
theorem OvW.reads {S : Nat → Prop} {w wr : World} {rb l1 i1 N l2 i2 c q : Nat} {a : Option Addr} {s : ByteArray} {X Z : List Nat} {L : List St} (h : OvW S w wr rb l1 i1 N l2 i2 a c q s X Z) (hr : RowAt w a (L.flatMap St.cells)) (ha : Ap S a rb l1 i1 l2 i2) {i x : Nat} (hx : X[i]? = some x) (hxl : x < L.length) :
    wr.cell? ⟨l1, i, none⟩ = some (.int .i64 (x : Nat)) ∧ ∃ b off, a = some ⟨b, off, none⟩ ∧ ¬ S b ∧ wr.rangeAt b (off + x * 7) (L[x]).cells := by
  refine ⟨?_, ?_⟩
  · rw [World.ownsRow.cellAt h.one.row i (by rw [Nat.mul_one]; exact (List.getElem?_eq_some_iff.1 hx).1)]
    exact ixs_get hx
  · obtain ⟨b, off, rfl, hra⟩ := st_elem hr hxl
    have h1 := ha.far _ rfl
    exact ⟨b, off, rfl, h1, fun j v hv => h.chg.cell (hra j v hv) h1⟩
end

section
/-! A run over all places: over. -/
theorem OvW.swap {S : Nat → Prop} {w wr w2 : World} {rb l1 i1 N l2 i2 c q : Nat} {a : Option Addr} {s : ByteArray} {X Z : List Nat} (h : OvW S w wr rb l1 i1 N l2 i2 a c q s X Z) (ha : Ap S a rb l1 i1 l2 i2)
    (hb : CB w2 79 rb (runC a N c q s l2 Z.length i2 N l1 X.length i1)) (hc : Chg (fun k => k = rb) wr w2) : OvW S w w2 rb l2 i2 N l1 i1 a c q s Z X :=
  ⟨hb, h.two.chg hc (fun e => ha.r3 e.symm) (fun e => ha.r4 e.symm), h.one.chg hc (fun e => ha.r1 e.symm) (fun e => ha.r2 e.symm), h.chg.trans (hc.mono fun _ e _ => e ▸ ha.s0)⟩
theorem OvW.empty {S : Nat → Prop} {w wr w2 : World} {rb l1 i1 N l2 i2 c q : Nat} {a : Option Addr} {s : ByteArray} {X Z : List Nat} {e : Ending} (h : OvW S w wr rb l1 i1 N l2 i2 a c q s X Z) (ha : Ap S a rb l1 i1 l2 i2) (hz : Cret rb 5 l2 i2 N (runC a N c q s l1 X.length i1 N l2 Z.length i2) [] wr e w2) :
    OvW S w w2 rb l1 i1 N l2 i2 a c q s X [] := h.read ha hz
theorem OvW.rowAt {S : Nat → Prop} {w wr : World} {rb l1 i1 N l2 i2 c q : Nat} {a : Option Addr} {s : ByteArray} {X Z : List Nat} {cs : List Value} (h : OvW S w wr rb l1 i1 N l2 i2 a c q s X Z) (hr : RowAt w a cs) (ha : Ap S a rb l1 i1 l2 i2) : RowAt wr a cs := by
  rcases hr with hr | ⟨b, off, rfl, hra⟩
  · exact .inl hr
  · exact .inr ⟨b, off, rfl, fun j v hv => h.chg.cell (hra j v hv) (show ¬ S b from ha.far ⟨b, off, none⟩ rfl)⟩
theorem Ap.away {S : Nat → Prop} {a : Option Addr} {rb l1 i1 l2 i2 : Nat} (h : Ap S a rb l1 i1 l2 i2) : ∀ b, a = some b → b.block ≠ rb ∧ b.block ≠ l1 ∧ b.block ≠ i1 :=
  fun b e => ⟨fun e2 => h.far b e (e2 ▸ h.s0), fun e2 => h.far b e (e2 ▸ h.s1), fun e2 => h.far b e (e2 ▸ h.s2)⟩
set_option maxHeartbeats 16000000 in
set_option maxRecDepth 100000 in
theorem m_over (rb L1 I1 L2 I2 N c q : Nat) (L : List St) (a : Option Addr) (s : ByteArray) (n : Nat) (w : World) (hm : MachOk L q) (hN : L.length = N) (hsz : s.size = n) (hn : n ≤ 65536) (hfit : ∀ x ∈ L, x.s.fit)
    (S : Nat → Prop) (hw : OvW S w w rb L1 I1 N L2 I2 a c q s [] []) (hap : Ap S a rb L1 I1 L2 I2) (hr : RowAt w a (L.flatMap St.cells)) (FB : Bool) (FS : Nat) (hfin : hasM L q (bsN s) = (FB, FS)) :
    Calls Tryz.prog 24 #[.pointer (some ⟨rb, 0, none⟩)] w fun e w' => e = .returned (.tuple #[.bool FB, .int .i64 (FS : Nat)]) ∧ Chg S w w' := by
  have hT : (bsN s).length = n := by rw [bsN_len, hsz]
  have hst := (hasM_steps (T := bsN s) hm).2
  rw [hfin, hT, hN] at hst
  have hN4 : N ≤ 4096 := by rw [← hN]; exact hm.len
  have hNp : 0 < N := by have := hm.lt; omega
  have hFS : FS ≤ 4096 * 65537 := Nat.le_trans hst (Nat.mul_le_mul hN4 (by omega))
  have hgo : goOn L q (bsN s) 0 (n + 1 - 0) = (FB, FS) := by rw [← hfin]; unfold hasM; rw [hT]; rfl
  have HT := Lib.hid hT
  have HM := Lib.hid hm
  have HN := Lib.hid hN
  have HFIT := Lib.hid hfit
  have HR := Lib.hid hr
  have HW := Lib.hid hw
  have HAP := Lib.hid hap
  have HGO := Lib.hid hgo
  have HSEED := Lib.hid (fun j => seeds0 (L := L) (q := q) (T := bsN s) j)
  obtain ⟨-, -, c2, -, -, -, -⟩ := run7 hw.box
  clear hT hst hm hN hfit hr hw hap hgo hfin
  go_enter Tryz.func24, Tryz.ntmps24
  go_wp2
  go_step3
  go_wp2
  go_step3
  go_wp2
  go_loopw [4, 5, 16] (fun v4 v5 v16 wr => ∃ (p st D l1 i1 l2 i2 : Nat) (X : List Nat), p ≤ n + 1 ∧ v4 = .bool false ∧ v5 = .int .i64 (st : Nat) ∧ v16 = .int .i64 (p : Nat) ∧ st + D = FS ∧ Hid (goOn L q (bsN s) p (n + 1 - p) = (FB, D)) ∧ Hid (Ap S a rb l1 i1 l2 i2) ∧ Hid (OvW S w wr rb l1 i1 N l2 i2 a c q s X []) ∧ Hid (p ≤ n → ∀ j, j ∈ addS X q ↔ Seed L q (bsN s) p j)) (fun _ _ v16 _ => n + 1 - (intOf v16).toNat)
  case atStart => exact ⟨0, 0, FS, L1, I1, L2, I2, [], Nat.zero_le _, rfl, rfl, rfl, Nat.zero_add _, HGO.out, HAP.out, HW.out, fun _ => HSEED.out⟩
  case round =>
    obtain ⟨p, st, D, l1, i1, l2, i2, X, hp, rfl, rfl, rfl, hD, HG, HA, HO, HS⟩ := hrel
    by_cases hin : p ≤ n
    · have hsp := m_spread rb l1 i1 l2 0 i2 q c p L a s X wr HM.out (by rw [HN.out]; exact HO.out.box) (by rw [HN.out]; exact HO.out.one) HA.out.r1 HA.out.r2 (HO.out.rowAt HR.out HA.out) HA.out.away (HS.out hin)
      rw [HN.out] at hsp
      have HSP := Lib.hid hsp
      obtain ⟨k, hk⟩ : ∃ k, n + 1 - p = k + 1 := ⟨n - p, by omega⟩
      have hk2 : n + 1 - (p + 1) = k := by omega
      have hg := HG.out
      rw [hk] at hg
      have HGP := Lib.hid hg
      have HK2 := Lib.hid hk2
      have hpl : (p : Int) < (n : Int) + 1 := by omega
      clear hsp hg hk2 HG HS
      go_wp2_with (go_at_call 41; refine HSP.out.mono ?_; rintro e w2 ⟨rfl, Y, hz, hcr⟩; have HO2 := Lib.hid (HO.out.spread HA.out hz); have HCR := Lib.hid hcr; obtain ⟨c0, -, -, c3, -, -, -⟩ := run7 HO2.out.box; have hYN := HO2.out.one.len; have hst1 : st + Y.length ≤ FS := (by have h1 := Crowd.length HM.out hcr; have h2 := HGP.out; (by_cases hd : DoneAt L q (bsN s) p; (rw [goOn_done hd, ← h1] at h2; have := (Prod.mk.inj h2).2; omega); (rw [goOn_more hd, ← h1] at h2; have := (Prod.mk.inj h2).2; omega))); clear hz hcr)
      go_loopw [4, 36] (fun v4 v36 wr => ∃ (i : Nat) (Z : List Nat), i ≤ Y.length ∧ v4 = .bool false ∧ v36 = .int .i64 (i : Nat) ∧ Hid (Nxt L (bsN s) p Y i Z) ∧ Hid (∀ (m x : Nat) (st : St), m < i → Y[m]? = some x → L[x]? = some st → st.k ≠ 5) ∧ Hid (OvW S w wr rb l1 i1 N l2 i2 a c q s Y Z)) (fun _ v36 _ => Y.length - (intOf v36).toNat)
      case atStart => exact ⟨0, [], Nat.zero_le _, rfl, rfl, Nxt.start _ _ _ _, fun _ _ _ h => absurd h (Nat.not_lt_zero _), HO2.out⟩
      case round =>
        obtain ⟨i, Z, hi, rfl, rfl, HNX, HND, HOI⟩ := hrel
        by_cases hil : i < Y.length
        · obtain ⟨x, hx⟩ : ∃ x, Y[i]? = some x := ⟨_, List.getElem?_eq_getElem hil⟩
          have hxl : x < L.length := ((HCR.out.mem x).1 (List.mem_iff_getElem?.2 ⟨i, hx⟩)).lt HM.out
          have hxN : x < N := by rw [← HN.out]; exact hxl
          obtain ⟨ci, b, off, rfl, hbS, hra⟩ := HOI.out.reads HR.out HA.out hx hxl
          obtain ⟨st0, hst0⟩ : ∃ s0, L[x]? = some s0 := ⟨_, List.getElem?_eq_getElem hxl⟩
          have hst2 : L[x] = st0 := by rw [List.getElem?_eq_getElem hxl] at hst0; injection hst0
          rw [hst2] at hra
          have hok := HM.out.ok hst0
          rw [HN.out] at hok
          have hf0 := HFIT.out st0 (List.mem_iff_getElem?.2 ⟨x, hst0⟩)
          obtain ⟨b0, -, b2, -, -, -, -⟩ := run7 HOI.out.box
          obtain ⟨kk, ss, sx, sy⟩ := st0
          obtain ⟨r0, -, -, -, -, -, -⟩ := range7 hra
          have HRA := Lib.hid hra
          have HX := Lib.hid hx
          have HST := Lib.hid hst0
          clear hx hst0 hst2 hra hxl
          by_cases hk5 : kk = 5
          · have hd := HCR.out.done HX.out HST.out hk5
            have h1 := Crowd.length HM.out HCR.out
            have h2 := HGP.out
            rw [goOn_done hd, ← h1] at h2
            obtain ⟨e1, e2⟩ := Prod.mk.inj h2
            subst e1 hk5
            have hfs : FS = st + Y.length := by omega
            have HFS2 := Lib.hid hfs
            clear hd h1 h2 e2 hok hf0 hfs HGP
            go_wp2
            go_ret2
            exact ⟨by rw [HFS2.out]; rfl, HOI.out.chg⟩
          · have HND2 : Hid (∀ (m x : Nat) (st : St), m < i + 1 → Y[m]? = some x → L[x]? = some st → st.k ≠ 5) := fun m y s1 h h1 h2 => by
              by_cases he : m = i
              · subst he
                rw [HX.out] at h1
                obtain rfl := Option.some.inj h1
                rw [HST.out] at h2
                obtain rfl := Option.some.inj h2
                exact hk5
              · exact HND.out m y s1 (by omega) h1 h2
            have hx1 : 0 ≤ sx ∧ sx < (N : Int) ∧ (kk = 1 ∨ kk = 2 ∨ kk = 3 ∨ kk = 4) := okS_x hok hk5
            obtain ⟨xn, rfl⟩ : ∃ n : Nat, sx = n := ⟨sx.toNat, by omega⟩
            by_cases hk1 : kk = 1
            · subst hk1
              obtain ⟨bb, hbb⟩ : ∃ bb, at0 (bsN s) p = bb := ⟨_, rfl⟩
              have hnx := HNX.out.step1 HX.out HST.out rfl bb (fun c0 h => by
                have h3 := List.getElem?_eq_some_iff.1 h
                obtain ⟨h4, h5⟩ := h3
                rw [← hbb, at0_getElem h4, h5])
              have hrd := m_read rb l1 Y.length i1 N l2 i2 b (off + x * 7) q N c (some ⟨b, off, none⟩) Z s 1 ss xn sy p wr HOI.out.box HOI.out.two HA.out.r3 HA.out.r4 HRA.out hf0 (by omega)
              rw [hbb] at hrd
              simp only [Int.toNat_natCast] at hnx
              rw [HT.out] at hnx
              rw [hsz] at hrd
              obtain ⟨Z2, hZ2⟩ : ∃ Z2, (if p < n ∧ ss.has bb = true then addS Z xn else Z) = Z2 := ⟨_, rfl⟩
              rw [hZ2] at hnx hrd
              have HNX2 := Lib.hid hnx
              have HRD := Lib.hid hrd
              clear hbb hnx hrd hZ2 hok hf0 hx1 hk5
              go_wp2_with (go_at_call 42; refine HRD.out.mono ?_; intro e w3 hz; have HO3 := Lib.hid (HOI.out.read HA.out hz); obtain ⟨rfl, -⟩ := hz)
              go_roundw
              case rel => exact ⟨i + 1, Z2, by omega, rfl, by go_num, HNX2.out, HND2.out, HO3.out⟩
              case measure => simp [intOf]; omega
            · have HNX2 := Lib.hid (HNX.out.step2 HX.out HST.out hk1)
              have hk5' : (kk == 5) = false := by simpa using hk5
              have hk1' : (kk == 1) = false := by simpa using hk1
              clear hok hf0 hx1
              go_wp2
              go_roundw
              case rel => exact ⟨i + 1, Z, by omega, rfl, by go_num, HNX2.out, HND2.out, HOI.out⟩
              case measure => simp [intOf]; omega
        · obtain rfl : i = Y.length := by omega
          obtain ⟨-, -, -, d3, d4, d5, d6⟩ := run7 HOI.out.box
          have f3 := CB.free HOI.out.box 3
          have f4 := CB.free HOI.out.box 4
          have f5 := CB.free HOI.out.box 5
          have f6 := CB.free HOI.out.box 6
          clear c0 c3
          go_wp2
          go_region
          all_goals
            have hsw : OvW S w ((((wr.setCell ⟨rb, 3, none⟩ (sl l2 Z.length N)).setCell ⟨rb, 4, none⟩ (sl i2 N N)).setCell ⟨rb, 5, none⟩ (sl l1 Y.length N)).setCell ⟨rb, 6, none⟩ (sl i1 N N)).drew rb l2 i2 N l1 i1 a c q s Z Y :=
              HOI.out.swap HA.out ((((HOI.out.box.set 3 (sl l2 Z.length N)).set 4 (sl i2 N N)).set 5 (sl l1 Y.length N)).set 6 (sl i1 N N)) (((((Chg.refl (fun k => k = rb) wr).setCell (p := ⟨rb, 3, none⟩) rfl _).setCell (p := ⟨rb, 4, none⟩) rfl _).setCell (p := ⟨rb, 5, none⟩) rfl _).setCell (p := ⟨rb, 6, none⟩) rfl _).drew
            have HSW := Lib.hid hsw
            have HEM := Lib.hid (m_empty rb 5 l1 i1 N _ Y _ hsw.box rfl rfl hsw.two HA.out.r1 HA.out.r2 hNp)
            have hund := HCR.out.undone HND.out
            have h1 := Crowd.length HM.out HCR.out
            have h2 := HGP.out
            rw [goOn_more hund, ← h1] at h2
            obtain ⟨e1, e2⟩ := Prod.mk.inj h2
            obtain ⟨D2, hD2⟩ : ∃ D2, (goOn L q (bsN s) (p + 1) k).2 = D2 := ⟨_, rfl⟩
            rw [hD2] at e2
            have HG2 : Hid (goOn L q (bsN s) (p + 1) (n + 1 - (p + 1)) = (FB, D2)) := by show _ = _; rw [HK2.out, ← e1, ← hD2]
            have hst2 : st + Y.length + D2 = FS := by omega
            have HS2 : Hid (p + 1 ≤ n → ∀ j, j ∈ addS Z q ↔ Seed L q (bsN s) (p + 1) j) := fun h => HNX.out.seeds HCR.out (by rw [HT.out]; exact h)
            clear hsw hund h1 h2 e1 e2 hD2 d3 d4 d5 d6 f3 f4 f5 f6
            go_wp2_with (go_at_call 43; refine HEM.out.mono ?_; intro e w4 hz; have HO4 := Lib.hid (HSW.out.empty HA.out.swap hz); obtain ⟨rfl, -⟩ := hz)
            go_roundw
            case rel => exact ⟨p + 1, st + Y.length, D2, l2, i2, l1, i1, Z, by omega, rfl, by go_num, by go_num, hst2, HG2.out, HA.out.swap, HO4.out, HS2.out⟩
            case measure => simp [intOf]; omega
    · obtain rfl : p = n + 1 := by omega
      have hg := HG.out
      rw [Nat.sub_self] at hg
      obtain ⟨e1, e2⟩ := Prod.mk.inj (show (false, 0) = (FB, D) from hg)
      subst e1 e2
      obtain rfl : st = FS := by omega
      have hdd : decide (((n : Int) + 1) < (n : Int) + 1) = false := decide_eq_false (by omega)
      clear hg HG hin
      go_wp2
      rw [Exit.noGoto_ret]
      go_ret2
      exact ⟨rfl, HO.out.chg⟩
end
end Go.Proofs.YthhchpmlljfpjaaGreat
