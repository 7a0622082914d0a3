import Derived.Test.YtflmgdfcgggmbaaDoorRefA
namespace Go.Proofs.YtflmgdfcgggmbaaDoor
open Go.RowKit

theorem own64.set {w : World} {B g n c : Nat} {zs : List Nat} (h : own64 w B (.slice (some ⟨g, 0, none⟩) n c) zs) (j x : Nat) : own64 (w.setCell ⟨g, j, none⟩ (.int .u64 (x : Nat))) B (.slice (some ⟨g, 0, none⟩) n c) (zs.set j x) := by
  have hn : n = zs.length := (own64.rd h).1
  subst hn
  unfold own64 at h ⊢
  rw [← u64s_set, List.length_set]
  exact (World.ownsRow.stored h j _).1
theorem own64.cell {w : World} {B g n c : Nat} {zs : List Nat} (h : own64 w B (.slice (some ⟨g, 0, none⟩) n c) zs) {j : Nat} (hj : j < zs.length) : w.cell? ⟨g, j, none⟩ = some (.int .u64 (at0 zs j : Nat)) := by
  have hn : n = zs.length := (own64.rd h).1
  subst hn
  rw [World.ownsRow.cellAt h j (by omega), u64s_get _ _ hj]
theorem own64.free {w : World} {B g n c : Nat} {zs : List Nat} (h : own64 w B (.slice (some ⟨g, 0, none⟩) n c) zs) (j : Nat) : w.frozen? ⟨g, j, none⟩ = false := by
  have hn : n = zs.length := (own64.rd h).1
  subst hn
  exact World.ownsRow.frozenAt h j
theorem own64.isAt {w : World} {B : Nat} {v : Value} {zs : List Nat} (h : own64 w B v zs) (h0 : 0 < zs.length) : ∃ g c, v = .slice (some ⟨g, 0, none⟩) zs.length c ∧ B ≤ g ∧ g < w.heap.size := owns_some h h0
theorem take_set_snoc {ws : List Nat} {k x : Nat} (h : k < ws.length) : (ws.set k x).take (k + 1) = ws.take k ++ [x] := by
  rw [List.take_add_one, List.take_set_of_le (Nat.le_refl k)]
  simp [h]
theorem drop_set_succ {ws : List Nat} {k x : Nat} : (ws.set k x).drop (k + 1) = ws.drop (k + 1) := by
  rw [List.drop_set_of_lt (by omega)]
theorem Hd.set {ws : List Nat} {k x : Nat} (h : Hd ws) (hx : x < 4294967296) : Hd (ws.set k x) := fun y hy => by
  rcases List.mem_or_eq_of_mem_set hy with hy | rfl
  · exact h y hy
  · exact hx
theorem drop_eq_tail {ws hs : List Nat} {k : Nat} (h : ws.drop k = hs.drop k) : ws.drop (k + 1) = hs.drop (k + 1) := by
  rw [← List.drop_drop, h, List.drop_drop]
theorem drop_eq_at0 {ws hs : List Nat} {k : Nat} (h : ws.drop k = hs.drop k) : at0 ws k = at0 hs k := by
  have h1 := at0_drop (xs := ws) (i := 0) (n := k)
  have h2 := at0_drop (xs := hs) (i := 0) (n := k)
  rw [Nat.add_zero] at h1 h2
  rw [← h1, ← h2, h]
theorem ten_step {ws hs : List Nat} {k x cy c0 : Nat} (hk : k < ws.length) (hv : v32 (ws.take k) + 4294967296 ^ k * cy = 10 * v32 (hs.take k) + c0) (hx : v32 (hs.take (k + 1)) = v32 (hs.take k) + 4294967296 ^ k * x) :
    v32 ((ws.set k ((x * 10 + cy) % 4294967296)).take (k + 1)) + 4294967296 ^ (k + 1) * ((x * 10 + cy) / 4294967296) = 10 * v32 (hs.take (k + 1)) + c0 := by
  rw [take_set_snoc hk, v32_snoc, List.length_take, Nat.min_eq_left (by omega), hx, Nat.pow_succ]
  generalize 4294967296 ^ k = p at *
  have e : p * ((x * 10 + cy) % 4294967296) + p * 4294967296 * ((x * 10 + cy) / 4294967296) = p * (x * 10 + cy) := by rw [Nat.mul_assoc, ← Nat.mul_add, Nat.mod_add_div]
  rw [Nat.mul_add, ← Nat.mul_assoc] at e
  omega

/-- What the document's Parse answers. -/
def RParsePost (l : List UInt8) (w : World) (e : Ending) (w' : World) : Prop :=
  Below w.heap.size w w' ∧
  ((65536 < l.length ∧ e = .returned (.tuple #[.slice none 0 0, .int .i64 3])) ∨
   (l.length ≤ 65536 ∧ decB l = false ∧ e = .returned (.tuple #[.slice none 0 0, .int .i64 12])) ∨
   (l.length ≤ 65536 ∧ decB l = true ∧ 18446744073709551616 ^ 128 ≤ dval l ∧ e = .returned (.tuple #[.slice none 0 0, .int .i64 3])) ∨
   (l.length ≤ 65536 ∧ decB l = true ∧ dval l < 18446744073709551616 ^ 128 ∧ ∃ v zs, e = .returned (.tuple #[v, .int .i64 0]) ∧ own64 w' w.heap.size v zs ∧ Num zs (dval l)))
theorem cn32_ge {hs : List Nat} (hc : Cn hs) (hp : 0 < hs.length) : 4294967296 ^ (hs.length - 1) ≤ v32 hs := by
  have h3 := v32_at hs (hs.length - 1) (by omega)
  have hcn := hc hp
  have h4 : 4294967296 ^ (hs.length - 1) * 1 ≤ 4294967296 ^ (hs.length - 1) * (at0 hs (hs.length - 1) + 4294967296 * v32 (hs.drop (hs.length - 1 + 1))) := Nat.mul_le_mul_left _ (by omega)
  omega
theorem cn32_of_ge {ws : List Nat} (hh : Hd ws) (h : 0 < ws.length → 4294967296 ^ (ws.length - 1) ≤ v32 ws) : Cn ws := by
  intro hp e
  have h1 := v32_take_drop ws (ws.length - 1) (by omega)
  have h2 : ws.drop (ws.length - 1) = [0] := by
    rw [List.drop_eq_getElem_cons (by omega), List.drop_of_length_le (by omega), ← at0_getElem (by omega), e]
  have h3 := v32_lt (hh.take (ws.length - 1))
  rw [List.length_take, Nat.min_eq_left (by omega)] at h3
  have h4 := h hp
  rw [h2] at h1
  simp only [v32] at h1
  omega
theorem dval_mono (l : List UInt8) (k : Nat) : dval (l.take k) ≤ dval l := by
  have h := dval_append (l.take k) (l.drop k)
  rw [List.take_append_drop] at h
  have h2 : dval (l.take k) * 1 ≤ dval (l.take k) * 10 ^ (l.drop k).length := Nat.mul_le_mul_left _ (Nat.pow_pos (by decide))
  omega
theorem decB_true {l : List UInt8} (h0 : 0 < l.length) (hd : ∀ c ∈ l, isDig c = true) : decB l = true := by
  have : l.all isDig = true := List.all_eq_true.2 hd
  simp [decB, this, h0]
theorem pow_128 : (4294967296 : Nat) ^ 256 = 18446744073709551616 ^ 128 := by decide +kernel

set_option exponentiation.threshold 10000 in
set_option maxHeartbeats 2000000 in
set_option maxRecDepth 100000 in
theorem rparse_main (s : ByteArray) (w : World) (hs0 : 0 < s.size) (hs : s.size ≤ 65536) (hd : ∀ c ∈ s.data.toList, isDig c = true) :
    Calls Tryd.prog 26 #[.string s] w (RParsePost s.data.toList w) := by
  have hlen := bytes_len s
  have HD := Lib.hid hd
  clear hd
  go_enter Tryd.func26, Tryd.ntmps26
  go_wp2
  go_loop [4] (fun i => ∃ k : Nat, k ≤ s.size ∧ i = .int .i64 k) (fun i => s.size - (intOf i).toNat)
  case atStart => exact ⟨0, Nat.zero_le _, rfl⟩
  case round =>
    obtain ⟨k, hk, rfl⟩ := hrel
    by_cases hlt : k < s.size
    · have h1 : 48 ≤ s[k].toNat ∧ s[k].toNat ≤ 57 := by
        have := HD.out s[k] (by rw [← Array.mem_def]; exact Array.getElem_mem hlt)
        simpa [isDig] using this
      obtain ⟨h1, h2⟩ := h1
      have t1 : decide ((s[k].toNat : Int) < 48) = false := by simp; omega
      have t2 : decide ((57 : Int) < (s[k].toNat : Int)) = false := by simp; omega
      go_wp2
      go_round
      case rel => exact ⟨k + 1, by omega, by go_num⟩
      case measure => simp [intOf]; omega
    · obtain rfl : k = s.size := by omega
      go_wp2
      go_loopw [5, 6] (fun v i wr => ∃ (k : Nat) (hs : List Nat), k ≤ s.size ∧ i = .int .i64 k ∧ Hid (own64 wr w.heap.size v hs) ∧ hs.length ≤ 256 ∧ Hid (Hd hs) ∧ Hid (Cn hs) ∧ Hid (v32 hs = dval (s.data.toList.take k)) ∧ Below w.heap.size w wr) (fun _ i _ => s.size - (intOf i).toNat)
      case atStart => exact ⟨0, [], Nat.zero_le _, rfl, own64_nil _ _, by simp, Hd.nil, fun h => by simp at h, by show _ = _; simp [v32, dval], Below.refl _ _⟩
      case round =>
        obtain ⟨k, hs, hk, rfl, HO, hl, HH, HC, HV, hbl⟩ := hrel
        by_cases hlt : k < s.size
        · have h1 : 48 ≤ s[k].toNat ∧ s[k].toNat ≤ 57 := by
            have := HD.out s[k] (by rw [← Array.mem_def]; exact Array.getElem_mem hlt)
            simpa [isDig] using this
          obtain ⟨h1, h2⟩ := h1
          have HS := Lib.hid (bytes_take_snoc s k hlt)
          obtain ⟨c0, hc0⟩ : ∃ c0, c0 = s[k].toNat - 48 := ⟨_, rfl⟩
          have rc : (s[k].toNat : Int) - 48 = (c0 : Int) := by omega
          have hc9 : c0 ≤ 9 := by omega
          have HC0 := Lib.hid hc0
          clear hc0
          obtain ⟨a, cp, rfl, hrd⟩ := own64.form HO.out
          go_wp2
          obtain ⟨w0, rfl⟩ : ∃ w0 : World, w0 = wr := ⟨_, rfl⟩
          go_loopw [7, 8] (fun cv kv wr => ∃ (j cy : Nat) (ws : List Nat), j ≤ hs.length ∧ kv = .int .i64 j ∧ cv = .int .u64 cy ∧ cy ≤ 9 ∧ Hid (own64 wr w.heap.size (.slice a hs.length cp) ws) ∧ Hid (ws.length = hs.length) ∧ Hid (Hd ws) ∧ Hid (v32 (ws.take j) + 4294967296 ^ j * cy = 10 * v32 (hs.take j) + c0) ∧ Hid (ws.drop j = hs.drop j) ∧ Below w.heap.size w wr) (fun _ kv _ => hs.length - (intOf kv).toNat)
          case atStart => exact ⟨0, c0, hs, Nat.zero_le _, rfl, rfl, hc9, HO, rfl, HH, by show _ = _; simp [v32], rfl, hbl⟩
          case round =>
            clear HO hrd hbl
            obtain ⟨j, cy, ws, hj, rfl, rfl, hcy, HO, HL, HW, HN, HDr, hbl⟩ := hrel
            have hsz := hbl.size
            by_cases hlt2 : j < hs.length
            · obtain ⟨g, c', hv, hBg, hgl⟩ := own64.isAt HO.out (by have := HL.out; omega)
              simp only [Value.slice.injEq] at hv
              obtain ⟨rfl, _, rfl⟩ := hv
              have hc1 := own64.cell HO.out (j := j) (by have := HL.out; omega)
              have hf1 := own64.free HO.out j
              have HA : Hid (at0 ws j = at0 hs j) := drop_eq_at0 HDr.out
              have hb1 : at0 ws j < 4294967296 := HW.out.at0 _
              have HX : Hid (v32 (hs.take (j + 1)) = v32 (hs.take j) + 4294967296 ^ j * at0 ws j) := by rw [HA.out]; exact take_v32_snoc (by omega)
              have HT : Hid (v32 ((ws.set j ((at0 ws j * 10 + cy) % 4294967296)).take (j + 1)) + 4294967296 ^ (j + 1) * ((at0 ws j * 10 + cy) / 4294967296) = 10 * v32 (hs.take (j + 1)) + c0) := ten_step (by have := HL.out; omega) HN.out HX.out
              have HOS := fun (x : Nat) => own64.set HO.out j x
              generalize at0 ws j = x at *
              have ha := and_low (x * 10 + cy) (by omega)
              have ha2 : bits BinOp.and IntKind.u64 ((x : Int) * 10 + (cy : Int)) 4294967295 = (((x * 10 + cy) % 4294967296 : Nat) : Int) := by rw [← ha]; congr 1
              have HHS := Lib.hid HOS
              clear HOS ha HA
              go_wp2
              go_roundw
              case rel =>
                refine ⟨j + 1, (x * 10 + cy) / 4294967296, ws.set j ((x * 10 + cy) % 4294967296), by omega, by go_num, lit64 (by omega), by omega, ?_, by show _ = _; rw [List.length_set]; exact HL.out, HW.out.set (by omega), HT.out, ?_, hbl.setCell hBg _⟩
                · have := HHS.out ((x * 10 + cy) % 4294967296)
                  rw [lit64 (show ((x : Int) * 10 + cy) % 4294967296 = ((x * 10 + cy) % 4294967296 : Nat) by omega)]
                  exact this
                · show _ = _
                  rw [drop_set_succ]; exact drop_eq_tail HDr.out
              case measure => simp [intOf]; omega
            · obtain rfl : j = hs.length := by omega
              have HV2 : Hid (v32 ws + 4294967296 ^ hs.length * cy = dval (s.data.toList.take (k + 1))) := by
                show _ = _
                have h3 := HN.out
                rw [List.take_length, List.take_of_length_le (by have := HL.out; omega)] at h3
                rw [HS.out, dval_snoc, ← HC0.out, h3, HV.out]
              have hown : wr.ownsRow w.heap.size 57 1 (.slice a hs.length cp) hs.length (u64s ws) := own64.row HO.out HL.out
              by_cases h0 : cy = 0
              · subst h0
                have HC2 : Hid (Cn ws) := by
                  refine cn32_of_ge HW.out fun hp => ?_
                  have h3 := HN.out
                  rw [List.take_length, List.take_of_length_le (by have := HL.out; omega)] at h3
                  have h4 := cn32_ge HC.out (by have := HL.out; omega)
                  rw [HL.out]; omega
                have hq : decide (256 < hs.length) = false := by simp; omega
                clear hown
                go_wp2
                go_roundw
                case rel => exact ⟨k + 1, ws, by omega, by go_num, HO, by have := HL.out; omega, HW, HC2, by show _ = _; have := HV2.out; omega, hbl⟩
                case measure => simp [intOf]; omega
              · have hq0 : decide ((0 : Int) < (cy : Int)) = true := by simp; omega
                have hcp : 0 < cy := by omega
                go_wp2_with (at_builtin; refine wpl_app 22 57 Tryd.underlying22 info64 rfl (by decide) rfl _ _ rfl w.heap.size _ hs.length (u64s ws) rfl (hown.alloc _) wr.heap.size _ rfl (World.cell?_alloc_at _ _ _ _ rfl) rfl (by omega) (by simp; omega) ?_)
                intro g cap' w1 hown1 hg1 hBg hgl hgo
                have HO1 := Lib.hid hown1
                have hbl1 : Below w.heap.size w w1 := (hbl.alloc (by omega) _).grown hg1 (by simp; omega) (fun j hj => (hown.lt j hj).1)
                clear hown1 hg1 hgo hown
                have HV3 : Hid (v32 (ws ++ [cy]) = dval (s.data.toList.take (k + 1))) := by
                  show _ = _
                  rw [v32_snoc, HL.out]; exact HV2.out
                have HC2 : Hid (Cn (ws ++ [cy])) := by
                  intro _
                  rw [List.length_append, List.length_singleton, Nat.add_sub_cancel]
                  have := at0_append_right (xs := ws) (ys := [cy]) 0
                  rw [Nat.add_zero] at this
                  rw [this]; simpa [at0] using h0
                by_cases hbig : 256 < hs.length + 1
                · have HR : Hid (18446744073709551616 ^ 128 ≤ dval s.data.toList) := by
                    have h3 := cn32_ge HC2.out (by simp)
                    rw [HV3.out, List.length_append, HL.out, List.length_singleton, Nat.add_sub_cancel, show hs.length = 256 by omega, pow_128] at h3
                    exact Nat.le_trans h3 (dval_mono _ _)
                  have hq : decide (256 < hs.length + 1) = true := by simp; omega
                  go_wp2
                  go_ret2
                  exact ⟨hbl1, .inr (.inr (.inl ⟨by omega, decB_true (by omega) HD.out, HR.out, rfl⟩))⟩
                · have hq : decide (256 < hs.length + 1) = false := by simp; omega
                  go_wp2
                  go_roundw
                  case rel => exact ⟨k + 1, ws ++ [cy], by omega, by go_num, own64_snoc HO1.out HL.out rfl, by have := HL.out; simp; omega, HW.out.snoc (by omega), HC2, HV3, hbl1⟩
                  case measure => simp [intOf]; omega
        · obtain rfl : k = s.size := by omega
          obtain ⟨a, cp, rfl, hrd⟩ := own64.form HO.out
          have HV2 : Hid (v32 hs = dval s.data.toList) := by have := HV.out; rw [List.take_of_length_le (by omega)] at this; exact this
          have HO2 := Lib.hid hrd
          clear hrd
          go_wp2_with fail
          refine (limbs_any a hs.length cp hs _ rfl (by omega) HO2.out HH.out).mono ?_
          rintro e w1 ⟨v, zs, rfl, hown, hnum, hb2⟩
          have HOW := Lib.hid hown
          have HNU := Lib.hid hnum
          have hbl1 : Below w.heap.size w w1 := hbl.trans (hb2.mono hbl.size)
          clear hown hnum hb2
          go_wp2
          go_ret2
          refine ⟨hbl1, .inr (.inr (.inr ⟨by omega, decB_true (by omega) HD.out, ?_, v, zs, rfl, owns_base HOW.out hbl.size, by rw [← HV2.out]; exact HNU.out⟩))⟩
          have h3 := v32_lt HH.out
          have h4 : 4294967296 ^ hs.length ≤ 4294967296 ^ 256 := Nat.pow_le_pow_right (by decide) hl
          rw [pow_128] at h4
          rw [HV2.out] at h3
          omega

theorem rparse_any (s : ByteArray) (w : World) (hs : s.size ≤ 9223372036854775807) :
    Calls Tryd.prog 26 #[.string s] w (RParsePost s.data.toList w) := by
  have hlen := bytes_len s
  by_cases hbig : 65536 < s.size
  · go_enter Tryd.func26, Tryd.ntmps26
    go_wp2
    go_ret2
    exact ⟨Below.refl _ _, .inl ⟨by omega, rfl⟩⟩
  · by_cases h0 : s.size = 0
    · have HD : Hid (decB s.data.toList = false) := by
        show _ = _
        have : s.data.toList = [] := List.eq_nil_of_length_eq_zero (by omega)
        rw [this]; rfl
      go_enter Tryd.func26, Tryd.ntmps26
      go_wp2
      go_ret2
      exact ⟨Below.refl _ _, .inr (.inl ⟨by omega, HD.out, rfl⟩)⟩
    · by_cases hd : ∀ c ∈ s.data.toList, isDig c = true
      · exact rparse_main s w (by omega) (by omega) hd
      · have HB : Hid (decB s.data.toList = false) := by
          show _ = _
          have : s.data.toList.all isDig = false := by
            rw [List.all_eq_false]
            simpa using hd
          simp [decB, this]
        have HD := Lib.hid hd
        clear hd
        go_enter Tryd.func26, Tryd.ntmps26
        go_wp2
        go_loop [4] (fun i => ∃ k : Nat, k ≤ s.size ∧ i = .int .i64 k ∧ Hid (∀ c ∈ s.data.toList.take k, isDig c = true)) (fun i => s.size - (intOf i).toNat)
        case atStart => exact ⟨0, Nat.zero_le _, rfl, fun c hc => by simp at hc⟩
        case round =>
          obtain ⟨k, hk, rfl, HT⟩ := hrel
          by_cases hlt : k < s.size
          · have HS := Lib.hid (bytes_take_snoc s k hlt)
            by_cases hd : isDig s[k] = true
            · have h1 : 48 ≤ s[k].toNat ∧ s[k].toNat ≤ 57 := by simpa [isDig] using hd
              obtain ⟨h1, h2⟩ := h1
              have HDk := Lib.hid hd
              clear hd
              have t1 : decide ((s[k].toNat : Int) < 48) = false := by simp; omega
              have t2 : decide ((57 : Int) < (s[k].toNat : Int)) = false := by simp; omega
              go_wp2
              go_round
              case rel => exact ⟨k + 1, by omega, by go_num, fun c hc => by rw [HS.out, List.mem_append] at hc; rcases hc with hc | hc; exact HT.out c hc; simp at hc; rw [hc]; exact HDk.out⟩
              case measure => simp [intOf]; omega
            · have h1 : ¬ (48 ≤ s[k].toNat ∧ s[k].toNat ≤ 57) := by simpa [isDig] using hd
              clear hd
              by_cases h2 : s[k].toNat < 48
              · have t1 : decide ((s[k].toNat : Int) < 48) = true := by simp; omega
                clear h1
                go_wp2
                go_ret2
                exact ⟨Below.refl _ _, .inr (.inl ⟨by omega, HB.out, rfl⟩)⟩
              · have t1 : decide ((s[k].toNat : Int) < 48) = false := by simp; omega
                have t2 : decide ((57 : Int) < (s[k].toNat : Int)) = true := by simp; omega
                clear h1
                go_wp2
                go_ret2
                exact ⟨Below.refl _ _, .inr (.inl ⟨by omega, HB.out, rfl⟩)⟩
          · obtain rfl : k = s.size := by omega
            have := HT.out
            rw [List.take_of_length_le (by omega)] at this
            exact absurd this HD.out
end Go.Proofs.YtflmgdfcgggmbaaDoor
