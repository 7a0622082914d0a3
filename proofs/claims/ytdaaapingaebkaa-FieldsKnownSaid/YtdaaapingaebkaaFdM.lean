import Derived.Test.YtdaaapingaebkaaFdL
namespace Go.Proofs.Ytdaaapingaebkaa
open Go.RowKit

/-! FieldsTile. -/
theorem walk_place {l : List Nat} : ∀ (n i : Nat) (fs : List Fd) (j c : Nat), l.length - i ≤ n → walk l i fs = .bad j c → j ≤ l.length
  | n, i, fs, j, c, hn, hw => by
    by_cases hi : i < l.length
    · obtain ⟨l1, l2, l3⟩ := line_next hi
      cases n with
      | zero => omega
      | succ n =>
        cases hg : goesB (at0 l i) with
        | true =>
          rw [walk_goes hi hg] at hw
          exact walk_place n _ fs j c (by omega) hw
        | false =>
          cases hb : begL l i with
          | none => rw [walk_none hi hg hb] at hw; injection hw with h _; omega
          | some f =>
            rw [walk_some hi hg hb] at hw
            by_cases ho : ordK fs f.k = 0
            · rw [if_pos ho] at hw
              exact walk_place n _ _ j c (by omega) hw
            · rw [if_neg ho] at hw
              injection hw with h _
              omega
    · rw [walk_end (by omega)] at hw
      by_cases h2 : hasK 2 fs = true
      · rw [if_pos h2] at hw; cases hw
      · rw [if_neg h2] at hw; injection hw with h _; omega
theorem split_place {l : List Nat} {n j c : Nat} (h : (splitR l).fin n = .bad j c) : j ≤ l.length := by
  unfold splitR at h
  by_cases hb : 65536 < l.length
  · rw [if_pos hb] at h; injection h with h _; omega
  · rw [if_neg hb] at h
    cases hx : badB l with
    | some i =>
      rw [hx] at h
      injection h with h _
      unfold badB at hx
      have := (List.findIdx?_eq_some_iff_getElem.1 hx).1
      omega
    | none =>
      rw [hx] at h
      simp only at h
      by_cases hg : (l.isEmpty || goesB (at0 l 0)) = true
      · rw [if_pos hg] at h; injection h with h _; omega
      · rw [if_neg hg] at h
        cases hw : walk l 0 [] with
        | bad i c2 =>
          rw [hw] at h
          injection h with h _
          have := walk_place l.length 0 [] i c2 (by omega) hw
          omega
        | ok fs => rw [hw] at h; cases h
def endAt (G : List Fd) : Nat → Nat
  | 0 => 0
  | i + 1 => ((G[i]?).map (·.e)).getD 0
theorem endAt_succ {G : List Fd} {i : Nat} (h : i < G.length) : endAt G (i + 1) = (G[i]).e := by
  show ((G[i]?).map (·.e)).getD 0 = _
  rw [List.getElem?_eq_getElem h]
  rfl
theorem Tile.from {l : List Nat} {G : List Fd} (h : Tile l G) {i : Nat} (hi : i < G.length) : (G[i]).a = endAt G i := by
  cases i with
  | zero => exact h.zero h.pos
  | succ i => rw [endAt_succ (by omega)]; exact (h.next i hi).1
theorem hasK_take {G : List Fd} {i k : Nat} (hi : i < G.length) : hasK k (G.take (i + 1)) = (hasK k (G.take i) || decide ((G[i]).k = k)) := by
  rw [List.take_add_one, List.getElem?_eq_getElem hi]
  exact hasK_app k _ _
set_option maxHeartbeats 8000000 in
set_option maxRecDepth 100000 in
theorem d_FieldsTile (s : ByteArray) (w : World) : Calls Try.prog 6 #[.string s] w fun e w' => e = .returned (.bool true) ∧ Below w.heap.size w w' := by
  obtain ⟨n, hn⟩ : ∃ n, s.size = n := ⟨_, rfl⟩
  obtain ⟨r, hr⟩ : ∃ r, (splitR (bsN s)).fin n = r := ⟨_, rfl⟩
  have hsl : (bsN s).length = n := by rw [bsN_len, hn]
  have HFS := Lib.hid (fun W => f_Split s n W hn r hr)
  have HR := Lib.hid hr
  have HSL := Lib.hid hsl
  clear hr hsl
  go_enter Try.func6, Try.ntmps6
  go_wp2_with fail
  refine (HFS.out _).mono ?_
  rintro e w1 ⟨⟨i1, c1, rfl, h2, rfl⟩ | ⟨G, a, cap, rfl, h2, h3, rfl, h5⟩, hb⟩
  · have hp := split_place HR.out
    rw [HSL.out] at hp
    have hc0 : ((c1 : Int) == 0) = false := by simp; omega
    have hp1 : (0 : Int) ≤ (i1 : Int) := by omega
    have hp2 : (i1 : Int) ≤ (n : Int) := by omega
    have HB1 := Lib.hid hb
    clear h2 hb
    go_wp2_with (go_at_call 14; refine (f_works _).mono ?_; rintro e w2 ⟨rfl, hb2⟩; have HB2 := Lib.hid (bel_next HB1.out hb2); clear hb2)
    go_ret
    exact ⟨rfl, HB2.out⟩
  · have hr := HR.out
    rw [← HSL.out] at hr
    obtain ⟨ht, hbig, -⟩ := split_tile hr
    rw [HSL.out] at hbig
    have HT := Lib.hid ht
    obtain ⟨g, rfl, hg, hrow⟩ := own_fd h5 rfl h2
    obtain ⟨len, hl⟩ : ∃ len, G.length = len := ⟨_, rfl⟩
    rw [hl] at h3
    have HL := Lib.hid hl
    have HROW := Lib.hid hrow
    have HB1 := Lib.hid hb
    rw [hl]
    clear hr ht h2 h5 hb hg hrow hl
    go_wp2
    go_loopw [6, 7, 8] (fun v6 v7 v8 wr => ∃ (i z : Nat) (au : Bool), i ≤ len ∧ v8 = .int .i64 (i : Nat) ∧ v6 = .int .i64 (z : Nat) ∧ v7 = .bool au ∧ Hid (z = endAt G i) ∧ Hid (au = hasK 2 (G.take i)) ∧ Hid (Below w1.heap.size w1 wr)) (fun _ _ v8 _ => len - (intOf v8).toNat)
    case atStart => exact ⟨0, 0, false, Nat.zero_le _, rfl, rfl, rfl, rfl, rfl, Below.refl _ _⟩
    case round =>
      obtain ⟨i, z, au, hi, rfl, rfl, rfl, HZ, HAU, HB⟩ := hrel
      obtain ⟨W2, rfl⟩ : ∃ W2, W2 = wr := ⟨_, rfl⟩
      by_cases hin : i < len
      · have hif : i < G.length := by rw [HL.out]; exact hin
        obtain ⟨f, hf⟩ : ∃ f, f = G[i] := ⟨_, rfl⟩
        obtain ⟨t1, t2, t3, t4, t5, t6⟩ := HT.out.at_ i hif
        have tz := HT.out.from hif
        have tn := endAt_succ hif
        have th := hasK_take (k := 2) hif
        have hra := HROW.out i hif
        have tl : 0 < i → at0 (bsN s) ((G[i]).a - 1) = 10 ∧ 0 < (G[i]).a := fun h0 => by
          obtain ⟨p, rfl⟩ : ∃ p, i = p + 1 := ⟨i - 1, by omega⟩
          refine ⟨(HT.out.next p hif).2, ?_⟩
          have h1 := (HT.out.next p hif).1
          obtain ⟨u1, u2, -⟩ := HT.out.at_ p (by omega)
          omega
        have tap : ∀ j (hj : j < i), (G[j]'(by omega)).k ≠ (G[i]).k ∧ (G[j]'(by omega)).k ≠ 7 := fun j hj => HT.out.apart i j hif hj
        rw [← hf] at t1 t2 t3 t4 t5 t6 tz tn th hra tl
        obtain ⟨fk, fa, fb, fe⟩ := f
        simp only at t1 t2 t3 t4 t5 t6 tz tn th tl
        obtain ⟨q, rfl⟩ : ∃ q, fb = q + 1 := ⟨fb - 1, by omega⟩
        rw [Nat.add_sub_cancel] at t4 t5
        rw [HSL.out] at t3
        obtain rfl : z = fa := HZ.out.trans tz.symm
        have hra2 : W2.rangeAt g (i * 4) (Fd.cells ⟨fk, z, q + 1, fe⟩) := fun j v hv => below_cell HB.out _ _ (hra j v hv)
        obtain ⟨z0, z1, z2, z3⟩ := range4 (show W2.rangeAt g (i * 4) [.int .u8 (fk : Nat), .int .i64 (z : Nat), .int .i64 ((q + 1 : Nat)), .int .i64 (fe : Nat)] from hra2)
        have HRA := Lib.hid hra2
        obtain ⟨t, ht⟩ : ∃ t, s.extract z q = t := ⟨_, rfl⟩
        have hk : kindN (bsN t) = fk := by rw [← ht, bsN_extract]; exact t5
        have HKD := Lib.hid (fun W => f_Kind t fk W hk)
        rw [show decide (fk ≠ 0) = true from decide_eq_true t6] at HKD
        have HE := Lib.hid ht
        have x1 : ∀ W, (Instr.index 9 (.string s) (.int .i64 (q : Int))).run Try.prog W = .ok (.int .u8 58) W := idx_str 9 Try.underlying9 s q 58 (by omega) t4
        have HTAP := Lib.hid tap
        have HTL := Lib.hid tl
        have HTN := Lib.hid tn
        have HTH := Lib.hid th
        have HFK := Lib.hid hf
        have a1 : decide (((q : Int) + 1) ≤ (z : Int)) = false := decide_eq_false (by omega)
        have a2 : decide ((fe : Int) < (q : Int) + 1) = false := decide_eq_false (by omega)
        have a3 : (fe : Int) ≤ (n : Int) := by omega
        have a9 : fe ≤ n := by omega
        have a4 : (0 : Int) ≤ (q : Int) := by omega
        have a5 : (q : Int) < (s.size : Int) := by omega
        have a6 : (0 : Int) ≤ (z : Int) := by omega
        have a7 : (z : Int) ≤ (q : Int) := by omega
        have a8 : (q : Int) ≤ (n : Int) := by omega
        clear t1 t2 t3 t4 t5 t6 tz tn th hra hra2 tl tap hk ht hf
        have HBI : Hid (Below w1.heap.size w1 W2) := HB.out
        by_cases h0 : i = 0
        · have hp1 : decide ((0 : Int) < (i : Int)) = false := decide_eq_false (by omega)
          have hp2 : decide (0 < i) = false := decide_eq_false (by omega)
          clear h0
          go_wp2_with fail
          rw [HE.out]
          go_wp2_with (go_at_call 20; refine (HKD.out _).mono ?_; rintro e w2 ⟨rfl, m2, rfl⟩)
          go_loopw [12] (fun iv wr => ∃ j : Nat, j ≤ i ∧ iv = .int .i64 (j : Nat) ∧ Hid (Below w1.heap.size w1 wr) ∧ Hid (CB wr 28 W2.heap.size (Fd.cells ⟨fk, z, q + 1, fe⟩))) (fun iv _ => i - (intOf iv).toNat)
          case atStart => exact ⟨0, Nat.zero_le _, rfl, bel_drewN (bel_alloc HBI.out _) _, CB.drewN (CB.new W2 28 (Fd.cells ⟨fk, z, q + 1, fe⟩)) _⟩
          case round =>
            obtain ⟨j, hj, rfl, HBJ, HCJ⟩ := hrel
            by_cases hji : j < i
            · obtain ⟨e, he⟩ : ∃ e, e = G[j]'(by have := HL.out; omega) := ⟨_, rfl⟩
              have hrj := HROW.out j (by have := HL.out; omega)
              obtain ⟨u1, u2⟩ := HTAP.out j hji
              rw [← he] at hrj u1 u2
              rw [← HFK.out] at u1
              obtain ⟨ek, ea, eb, ee⟩ := e
              have hrj2 : wr.rangeAt g (j * 4) (Fd.cells ⟨ek, ea, eb, ee⟩) := fun q v hv => below_cell HBJ.out _ _ (hrj q v hv)
              obtain ⟨y0, -, -, -⟩ := range4 (show wr.rangeAt g (j * 4) [.int .u8 (ek : Nat), .int .i64 (ea : Nat), .int .i64 (eb : Nat), .int .i64 (ee : Nat)] from hrj2)
              have v1 : ((ek : Int) == (fk : Int)) = false := by
                simp only [beq_eq_false_iff_ne]
                intro h
                exact u1 (by simp only; omega)
              have v2 : ((ek : Int) == 7) = false := by
                simp only [beq_eq_false_iff_ne]
                intro h
                exact u2 (by simp only; omega)
              clear u1 u2 hrj he
              go_wp2
              go_roundw
              case rel => exact ⟨j + 1, by omega, by go_num, HBJ.out, HCJ.out⟩
              case measure => simp [intOf]; omega
            · obtain rfl : j = i := by omega
              obtain ⟨-, -, -, b3⟩ := range4 (CB.range0 (show CB wr 28 W2.heap.size [.int .u8 (fk : Nat), .int .i64 (z : Nat), .int .i64 ((q + 1 : Nat)), .int .i64 (fe : Nat)] from HCJ.out))
              rw [Nat.zero_add] at b3
              have HTH2 := HTH
              rw [← HAU.out] at HTH2
              cases au with
              | true =>
                go_wp2
                go_roundw
                case rel => exact ⟨j + 1, fe, true, by omega, by go_num, rfl, rfl, HTN.out.symm, HTH2.out.symm, HBJ.out⟩
                case measure => simp [intOf]; omega
              | false =>
                by_cases hf2 : fk = 2
                · have v3 : ((fk : Int) == 2) = true := by rw [hf2]; rfl
                  have HAU2 : Hid (true = hasK 2 (G.take (j + 1))) := by rw [HTH2.out, hf2]; rfl
                  clear hf2
                  go_wp2
                  go_roundw
                  case rel => exact ⟨j + 1, fe, true, by omega, by go_num, rfl, rfl, HTN.out.symm, HAU2.out, HBJ.out⟩
                  case measure => simp [intOf]; omega
                · have v3 : ((fk : Int) == 2) = false := by simp only [beq_eq_false_iff_ne]; omega
                  have HAU2 : Hid (false = hasK 2 (G.take (j + 1))) := by show _ = _; rw [HTH2.out]; simp [hf2]
                  clear hf2
                  go_wp2
                  go_roundw
                  case rel => exact ⟨j + 1, fe, false, by omega, by go_num, rfl, rfl, HTN.out.symm, HAU2.out, HBJ.out⟩
                  case measure => simp [intOf]; omega
        · have hp1 : (0 : Int) < (i : Int) := by omega
          have hp2 : 0 < i := by omega
          obtain ⟨tl1, tl2⟩ := HTL.out hp2
          have e0 : ((z : Int) - 1) = ((z - 1 : Nat) : Int) := by omega
          have x2 : ∀ W, (Instr.index 9 (.string s) (.int .i64 ((z : Int) - 1))).run Try.prog W = .ok (.int .u8 10) W := by rw [e0]; exact idx_str 9 Try.underlying9 s (z - 1) 10 (by omega) tl1
          have e1 : IntKind.i64.wrap ((z : Int) - 1) = (z : Int) - 1 := by rw [e0]; exact wrap_i64_nat _ (by omega)
          have c4 : (0 : Int) ≤ (z : Int) - 1 := by omega
          have c5 : (z : Int) - 1 < (s.size : Int) := by omega
          clear h0 tl1 tl2 e0
          go_wp2_with fail
          rw [HE.out]
          go_wp2_with (go_at_call 20; refine (HKD.out _).mono ?_; rintro e w2 ⟨rfl, m2, rfl⟩)
          go_loopw [12] (fun iv wr => ∃ j : Nat, j ≤ i ∧ iv = .int .i64 (j : Nat) ∧ Hid (Below w1.heap.size w1 wr) ∧ Hid (CB wr 28 W2.heap.size (Fd.cells ⟨fk, z, q + 1, fe⟩))) (fun iv _ => i - (intOf iv).toNat)
          case atStart => exact ⟨0, Nat.zero_le _, rfl, bel_drewN (bel_alloc HBI.out _) _, CB.drewN (CB.new W2 28 (Fd.cells ⟨fk, z, q + 1, fe⟩)) _⟩
          case round =>
            obtain ⟨j, hj, rfl, HBJ, HCJ⟩ := hrel
            by_cases hji : j < i
            · obtain ⟨e, he⟩ : ∃ e, e = G[j]'(by have := HL.out; omega) := ⟨_, rfl⟩
              have hrj := HROW.out j (by have := HL.out; omega)
              obtain ⟨u1, u2⟩ := HTAP.out j hji
              rw [← he] at hrj u1 u2
              rw [← HFK.out] at u1
              obtain ⟨ek, ea, eb, ee⟩ := e
              have hrj2 : wr.rangeAt g (j * 4) (Fd.cells ⟨ek, ea, eb, ee⟩) := fun q v hv => below_cell HBJ.out _ _ (hrj q v hv)
              obtain ⟨y0, -, -, -⟩ := range4 (show wr.rangeAt g (j * 4) [.int .u8 (ek : Nat), .int .i64 (ea : Nat), .int .i64 (eb : Nat), .int .i64 (ee : Nat)] from hrj2)
              have v1 : ((ek : Int) == (fk : Int)) = false := by
                simp only [beq_eq_false_iff_ne]
                intro h
                exact u1 (by simp only; omega)
              have v2 : ((ek : Int) == 7) = false := by
                simp only [beq_eq_false_iff_ne]
                intro h
                exact u2 (by simp only; omega)
              clear u1 u2 hrj he
              go_wp2
              go_roundw
              case rel => exact ⟨j + 1, by omega, by go_num, HBJ.out, HCJ.out⟩
              case measure => simp [intOf]; omega
            · obtain rfl : j = i := by omega
              obtain ⟨-, -, -, b3⟩ := range4 (CB.range0 (show CB wr 28 W2.heap.size [.int .u8 (fk : Nat), .int .i64 (z : Nat), .int .i64 ((q + 1 : Nat)), .int .i64 (fe : Nat)] from HCJ.out))
              rw [Nat.zero_add] at b3
              have HTH2 := HTH
              rw [← HAU.out] at HTH2
              cases au with
              | true =>
                go_wp2
                go_roundw
                case rel => exact ⟨j + 1, fe, true, by omega, by go_num, rfl, rfl, HTN.out.symm, HTH2.out.symm, HBJ.out⟩
                case measure => simp [intOf]; omega
              | false =>
                by_cases hf2 : fk = 2
                · have v3 : ((fk : Int) == 2) = true := by rw [hf2]; rfl
                  have HAU2 : Hid (true = hasK 2 (G.take (j + 1))) := by rw [HTH2.out, hf2]; rfl
                  clear hf2
                  go_wp2
                  go_roundw
                  case rel => exact ⟨j + 1, fe, true, by omega, by go_num, rfl, rfl, HTN.out.symm, HAU2.out, HBJ.out⟩
                  case measure => simp [intOf]; omega
                · have v3 : ((fk : Int) == 2) = false := by simp only [beq_eq_false_iff_ne]; omega
                  have HAU2 : Hid (false = hasK 2 (G.take (j + 1))) := by show _ = _; rw [HTH2.out]; simp [hf2]
                  clear hf2
                  go_wp2
                  go_roundw
                  case rel => exact ⟨j + 1, fe, false, by omega, by go_num, rfl, rfl, HTN.out.symm, HAU2.out, HBJ.out⟩
                  case measure => simp [intOf]; omega
      · obtain rfl : i = len := by omega
        have hau : au = true := by
          rw [HAU.out, ← HL.out, List.take_length]
          exact HT.out.has
        have hz : z = n := by
          have h1 := HT.out.last HT.out.pos
          rw [HSL.out] at h1
          rw [HZ.out, ← h1]
          have h2 := endAt_succ (G := G) (i := G.length - 1) (by have := HT.out.pos; omega)
          rw [← h2, ← HL.out]
          have h3 := HT.out.pos
          congr 1
          omega
        subst hau hz
        have HBW := Lib.hid (bel_next HB1.out HB.out)
        go_wp2_with (go_at_call 14; refine (f_works _).mono ?_; rintro e w2 ⟨rfl, hb2⟩; have HB2 := Lib.hid (bel_next HBW.out hb2); clear hb2)
        go_ret
        exact ⟨rfl, HB2.out⟩
end Go.Proofs.Ytdaaapingaebkaa
