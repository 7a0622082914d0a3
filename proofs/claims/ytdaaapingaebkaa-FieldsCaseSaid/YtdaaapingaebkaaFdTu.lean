import Derived.Test.YtdaaapingaebkaaFdSm
import Derived.Test.YtdaaapingaebkaaFdQ
namespace Go.Proofs.Ytdaaapingaebkaa
open Go.RowKit

/-! FieldsCase. -/
theorem endAt_le {l : List Nat} {G : List Fd} (ht : Tile l G) {i : Nat} (hi : i ≤ G.length) : endAt G i ≤ l.length := by
  cases i with
  | zero => exact Nat.zero_le _
  | succ i =>
    rw [endAt_succ (by omega)]
    exact (ht.at_ i (by omega)).2.2.1
set_option maxHeartbeats 4000000 in
set_option maxRecDepth 100000 in
theorem l_turned (s : ByteArray) (n : Nat) (v : Value) (G : List Fd) (w : World) (hn : s.size = n) (hbig : n ≤ 65536) (ht : Tile (bsN s) G) (hr : FRow w v G) (hlen : G.length ≤ 65536) :
    Calls Try.prog 23 #[.string s, v] w fun e w' => e = .returned (.string (strN (turnK (bsN s) G n))) ∧ Below w.heap.size w w' := by
  obtain ⟨c0, w1, hcv, hB, hb, hc0⟩ := conv_text s w
  obtain ⟨l, hl⟩ : ∃ l, l = bsN s := ⟨_, rfl⟩
  have hll : l.length = n := by rw [hl, bsN_len, hn]
  rw [← hl] at hB ht ⊢
  rw [hn] at hcv hc0
  obtain ⟨a, cap, rfl, hrow⟩ := hr
  have h8 : B8 l := by rw [hl]; exact bsN_8 s
  obtain ⟨len, hlen2⟩ : ∃ len, G.length = len := ⟨_, rfl⟩
  rw [hlen2] at hlen ⊢
  obtain ⟨g, rfl, hra⟩ := hrow ht.pos
  have H8 := Lib.hid h8
  have HL := Lib.hid hll
  have HB := Lib.hid hB
  have HW := Lib.hid hb
  have HT := Lib.hid ht
  have HLEN := Lib.hid hlen2
  have HRA := Lib.hid hra
  have hg : w.heap.size < w1.heap.size := hB.lt
  clear hl hll h8 hB hb ht hlen2 hrow hra
  go_enter Try.func23, Try.ntmps23
  go_wp2
  go_loopw [6] (fun iv wr => ∃ i : Nat, i ≤ len ∧ iv = .int .i64 (i : Nat) ∧ Hid (BW wr w.heap.size (turnK l G (endAt G i))) ∧ Hid (Below w.heap.size w wr)) (fun iv _ => len - (intOf iv).toNat)
  case atStart => exact ⟨0, Nat.zero_le _, rfl, by show BW _ _ _; rw [show endAt G 0 = 0 from rfl, turnK_0]; exact HB.out, HW.out⟩
  case round =>
    obtain ⟨i, hi, rfl, HBI, HWI⟩ := hrel
    obtain ⟨W2, rfl⟩ : ∃ W2, W2 = wr := ⟨_, rfl⟩
    by_cases hin : i < len
    · have hif : i < G.length := by rw [HLEN.out]; exact hin
      obtain ⟨f, hf⟩ : ∃ f, f = G[i] := ⟨_, rfl⟩
      obtain ⟨t1, t2, t3, -⟩ := HT.out.at_ i hif
      have tz := HT.out.from hif
      have tn := endAt_succ hif
      have hx := HRA.out i hif
      have tnm : ∀ p, (G[i]).a ≤ p → p < (G[i]).b → nmK G p = true := fun p h1 h2 => Tile.name hif h1 h2
      have tbd : ∀ p, (G[i]).b ≤ p → p < (G[i]).e → nmK G p = false := fun p h1 h2 => HT.out.body hif h1 h2
      rw [← hf] at t1 t2 t3 tz tn hx tnm tbd
      obtain ⟨fk, fa, fb, fe⟩ := f
      simp only at t1 t2 t3 tz tn tnm tbd
      rw [HL.out] at t3
      rw [← tz] at HBI
      have hx2 : W2.rangeAt g (i * 4) (Fd.cells ⟨fk, fa, fb, fe⟩) := fun j v hv => below_cell HWI.out _ _ (hx j v hv)
      obtain ⟨-, z1, z2, -⟩ := range4 (show W2.rangeAt g (i * 4) [.int .u8 (fk : Nat), .int .i64 (fa : Nat), .int .i64 (fb : Nat), .int .i64 (fe : Nat)] from hx2)
      have HX := Lib.hid hx
      have HNM := Lib.hid tnm
      have HBD := Lib.hid tbd
      have HTN := Lib.hid tn
      have hfb : fb ≤ n := by omega
      clear tz tn hx hx2 tnm tbd hf
      go_wp2
      go_loopw [7] (fun iv wr => ∃ k : Nat, fa ≤ k ∧ k ≤ fb ∧ iv = .int .i64 (k : Nat) ∧ Hid (BW wr w.heap.size (turnK l G k)) ∧ Hid (Below w.heap.size w wr)) (fun iv _ => fb - (intOf iv).toNat)
      case atStart => exact ⟨fa, Nat.le_refl _, by omega, rfl, HBI.out, HWI.out⟩
      case round =>
        obtain ⟨k, hk1, hk2, rfl, HBK, HWK⟩ := hrel
        have hy2 : wr.rangeAt g (i * 4) (Fd.cells ⟨fk, fa, fb, fe⟩) := fun j v hv => below_cell HWK.out _ _ (HX.out j v hv)
        obtain ⟨-, -, y2, -⟩ := range4 (show wr.rangeAt g (i * 4) [.int .u8 (fk : Nat), .int .i64 (fa : Nat), .int .i64 (fb : Nat), .int .i64 (fe : Nat)] from hy2)
        clear hy2
        by_cases hkb : k < fb
        · have hkl : k < l.length := by rw [HL.out]; omega
          have hkt : k < (turnK l G k).length := by rw [turnK_len]; exact hkl
          obtain ⟨c, hc⟩ : ∃ c, at0 l k = c := ⟨_, rfl⟩
          have hcell : wr.cell? ⟨w.heap.size, k, none⟩ = some (.int .u8 (c : Nat)) := by rw [HBK.out.cell k hkt, turnK_here hkl, hc]
          have hfz := HBK.out.free k hkt
          have hc8 : c < 256 := by rw [← hc]; exact H8.out.at0 k
          have hstep := turnK_step hkl (HNM.out k hk1 hkb)
          have hkeep := turnK_keep (l := l) (G := G) (K := k) hkl (HNM.out k hk1 hkb)
          rw [hc] at hstep hkeep
          have c1 : (0 : Int) ≤ (k : Int) := by omega
          have c2 : (k : Int) < (n : Int) := by omega
          have c3 : (k : Int) < (fb : Int) := by omega
          rcases (show (97 ≤ c ∧ c ≤ 122) ∨ (65 ≤ c ∧ c ≤ 90) ∨ c < 65 ∨ (90 < c ∧ c < 97) ∨ 122 < c by omega) with ⟨u1, u2⟩ | ⟨u1, u2⟩ | u1 | ⟨u1, u2⟩ | u1
          · obtain ⟨d, hd⟩ : ∃ d, d = c - 32 := ⟨_, rfl⟩
            have e1 : IntKind.u8.wrap ((c : Int) - 32) = (d : Int) := by
              rw [show ((c : Int) - 32) = ((d : Nat) : Int) by omega]; exact wrap_u8_in d (by omega)
            have hfl : flip c = d := by unfold flip; rw [if_pos ⟨u1, u2⟩, hd]
            rw [hfl] at hstep
            have HB2 : Hid (BW (wr.setCell ⟨w.heap.size, k, none⟩ (.int .u8 (d : Nat))) w.heap.size (turnK l G (k + 1))) := by
              have h := HBK.out.set k d hkt
              show BW _ _ _
              rw [hstep]; exact h
            have HW2 : Hid (Below w.heap.size w (wr.setCell ⟨w.heap.size, k, none⟩ (.int .u8 (d : Nat)))) := HWK.out.setCell (p := ⟨w.heap.size, k, none⟩) (Nat.le_refl _) _
            have v1 : (97 : Int) ≤ (c : Int) := by omega
            have v2 : (c : Int) ≤ 122 := by omega
            have v3 : (65 : Int) ≤ (c : Int) := by omega
            have v4 : decide ((c : Int) ≤ 90) = false := decide_eq_false (by omega)
            clear hc hd hstep hkeep hfl hkl hkt
            go_wp2
            go_roundw
            case rel => exact ⟨k + 1, by omega, by omega, by go_num, HB2.out, HW2.out⟩
            case measure => simp [intOf]; omega
          · obtain ⟨d, hd⟩ : ∃ d, d = c + 32 := ⟨_, rfl⟩
            have e1 : IntKind.u8.wrap ((c : Int) + 32) = (d : Int) := by
              rw [show ((c : Int) + 32) = ((d : Nat) : Int) by omega]; exact wrap_u8_in d (by omega)
            have hfl : flip c = d := by unfold flip; rw [if_neg (by omega), if_pos ⟨u1, u2⟩, hd]
            rw [hfl] at hstep
            have HB2 : Hid (BW (wr.setCell ⟨w.heap.size, k, none⟩ (.int .u8 (d : Nat))) w.heap.size (turnK l G (k + 1))) := by
              have h := HBK.out.set k d hkt
              show BW _ _ _
              rw [hstep]; exact h
            have HW2 : Hid (Below w.heap.size w (wr.setCell ⟨w.heap.size, k, none⟩ (.int .u8 (d : Nat)))) := HWK.out.setCell (p := ⟨w.heap.size, k, none⟩) (Nat.le_refl _) _
            have v1 : decide ((97 : Int) ≤ (c : Int)) = false := decide_eq_false (by omega)
            have v3 : (65 : Int) ≤ (c : Int) := by omega
            have v4 : (c : Int) ≤ 90 := by omega
            clear hc hd hstep hkeep hfl hkl hkt
            go_wp2
            go_roundw
            case rel => exact ⟨k + 1, by omega, by omega, by go_num, HB2.out, HW2.out⟩
            case measure => simp [intOf]; omega
          all_goals
            have hfl : flip c = c := by unfold flip; rw [if_neg (by omega), if_neg (by omega)]
            have hk := hkeep hfl
            have HB2 : Hid (BW wr w.heap.size (turnK l G (k + 1))) := by show BW _ _ _; rw [hk]; exact HBK.out
            clear hc hstep hkeep hfl hkl hkt hk
          · have v1 : decide ((97 : Int) ≤ (c : Int)) = false := decide_eq_false (by omega)
            have v3 : decide ((65 : Int) ≤ (c : Int)) = false := decide_eq_false (by omega)
            go_wp2
            go_roundw
            case rel => exact ⟨k + 1, by omega, by omega, by go_num, HB2.out, HWK.out⟩
            case measure => simp [intOf]; omega
          · have v1 : decide ((97 : Int) ≤ (c : Int)) = false := decide_eq_false (by omega)
            have v3 : (65 : Int) ≤ (c : Int) := by omega
            have v4 : decide ((c : Int) ≤ 90) = false := decide_eq_false (by omega)
            go_wp2
            go_roundw
            case rel => exact ⟨k + 1, by omega, by omega, by go_num, HB2.out, HWK.out⟩
            case measure => simp [intOf]; omega
          · have v1 : (97 : Int) ≤ (c : Int) := by omega
            have v2 : decide ((c : Int) ≤ 122) = false := decide_eq_false (by omega)
            have v3 : (65 : Int) ≤ (c : Int) := by omega
            have v4 : decide ((c : Int) ≤ 90) = false := decide_eq_false (by omega)
            go_wp2
            go_roundw
            case rel => exact ⟨k + 1, by omega, by omega, by go_num, HB2.out, HWK.out⟩
            case measure => simp [intOf]; omega
        · obtain rfl : k = fb := by omega
          have HB2 : Hid (BW wr w.heap.size (turnK l G (endAt G (i + 1)))) := by
            show BW _ _ _
            rw [HTN.out, turnK_skip t2 HBD.out]
            exact HBK.out
          go_wp2
          go_roundw
          case rel => exact ⟨i + 1, by omega, by go_num, HB2.out, HWK.out⟩
          case measure => simp [intOf]; omega
    · obtain rfl : i = len := by omega
      have hend : endAt G i = n := by
        have h1 := HT.out.last HT.out.pos
        have h2 := endAt_succ (G := G) (i := G.length - 1) (by have := HT.out.pos; omega)
        have h3 := HT.out.pos
        rw [← HL.out, ← h1, ← h2, ← HLEN.out]
        congr 1
        omega
      rw [hend] at HBI
      have htx := HBI.out.text n c0 (by rw [turnK_len]; exact HL.out) 9 Try.underlying9
      clear hend
      go_wp2
      go_ret
      exact ⟨rfl, HWI.out⟩
end Go.Proofs.Ytdaaapingaebkaa
