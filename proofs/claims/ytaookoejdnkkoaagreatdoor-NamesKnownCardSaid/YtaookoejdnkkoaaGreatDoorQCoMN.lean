import Derived.Test.YtaookoejdnkkoaaGreatDoorQ14
namespace Go.Proofs.YtaookoejdnkkoaaGreatDoor
open Go.RowKit

theorem b64Lit_bs (d : Nat) (h : d < 64) : at0 (bsN b64Lit) d = b64D d := by
  rw [bsN_at b64Lit d h]
  exact b64Lit_at d h
theorem f64_no (c : Nat) (w : World) (hn : ∀ d, d < 64 → b64D d ≠ c) :
    Calls Tryz.prog 147 #[.string ⟨#[65, 66, 67, 68, 69, 70, 71, 72, 73, 74, 75, 76, 77, 78, 79, 80, 81, 82, 83, 84, 85, 86, 87, 88, 89, 90, 97, 98, 99, 100, 101, 102, 103, 104, 105, 106, 107, 108, 109, 110, 111, 112, 113, 114, 115, 116, 117, 118, 119, 120, 121, 122, 48, 49, 50, 51, 52, 53, 54, 55, 56, 57, 43, 47]⟩, .int .u8 (c : Nat)] w fun e w' => e = .returned (.int .i64 (-1)) ∧ w = w' :=
  find_no b64Lit c w (by rw [b64Lit_size]; decide) (fun i hi => by rw [b64Lit_size] at hi; rw [b64Lit_bs i hi]; exact hn i hi)
theorem f64_yes (c d : Nat) (w : World) (hd : d < 64) (hy : b64D d = c) :
    Calls Tryz.prog 147 #[.string ⟨#[65, 66, 67, 68, 69, 70, 71, 72, 73, 74, 75, 76, 77, 78, 79, 80, 81, 82, 83, 84, 85, 86, 87, 88, 89, 90, 97, 98, 99, 100, 101, 102, 103, 104, 105, 106, 107, 108, 109, 110, 111, 112, 113, 114, 115, 116, 117, 118, 119, 120, 121, 122, 48, 49, 50, 51, 52, 53, 54, 55, 56, 57, 43, 47]⟩, .int .u8 (c : Nat)] w fun e w' => e = .returned (.int .i64 (d : Nat)) ∧ w = w' :=
  find_yes b64Lit c d w (by rw [b64Lit_size]; decide) (by rw [b64Lit_size]; exact hd) (by rw [b64Lit_bs d hd]; exact hy) (fun i hi e => by
    rw [b64Lit_bs i (by omega), ← hy] at e
    have := b64D_inj (by omega) hd e
    omega)
theorem strN_ne {a : List Nat} {s : ByteArray} (h : B8 a) (hne : a ≠ bsN s) : ((strN a).toList == s.toList) = false := by
  rw [beq_eq_false_iff_ne]
  intro e
  refine hne ?_
  rw [← bsN_strN h]
  show (strN a).data.toList.map _ = s.data.toList.map _
  rw [← ByteArray.toList_eq, ← ByteArray.toList_eq, e]
theorem strN_eq {a : List Nat} {s : ByteArray} (he : a = bsN s) : strN a = s := by rw [he, strN_bsN]
theorem b64L_8 {b : List Nat} (h : B8 b) : B8 (b64L b) := fun x hx => by
  rw [b64L_enc] at hx
  rcases List.mem_append.1 hx with h1 | h1
  · obtain ⟨y, hy, rfl⟩ := List.mem_map.1 h1
    have := (b64D_lt (encW_64 b h y hy)).1
    omega
  · have := List.eq_of_mem_replicate h1
    omega
theorem p64 (k : Nat) (h : k ≤ 3) : 64 ^ k ≤ 262144 := by
  rcases k with _ | _ | _ | _ | k <;> first | decide | omega

set_option maxHeartbeats 4000000 in
set_option maxRecDepth 100000 in
theorem run64_no (s : ByteArray) (n : Nat) (w : World) (hn : s.size = n) (hbig : n ≤ 1099511627776) (hno : ∀ c, B8 c → b64L c ≠ bsN s) :
    Calls Tryz.prog 92 #[.string s] w fun e w' => e = .returned (.tuple #[.slice none 0 0, .int .i64 61]) ∧ Below w.heap.size w w' := by
  have hbl := bsN_len s
  obtain ⟨l, hl⟩ : ∃ l, l = bsN s := ⟨_, rfl⟩
  rw [← hl] at hbl hno
  rw [hn] at hbl
  have HLS := Lib.hid hl
  have HLN := Lib.hid hbl
  have HNO := Lib.hid hno
  clear hno
  by_cases hodd : n % 4 = 0
  case neg =>
    have hq : ((n : Int) % 4 != 0) = true := by simp; omega
    clear hl hbl
    go_enter Tryz.func92, Tryz.ntmps92
    go_wp2
    go_ret2
    exact ⟨rfl, Below.refl _ _⟩
  have hq : ((n : Int) % 4 != 0) = false := by simp; omega
  have HOD := Lib.hid hodd
  clear hl hbl hodd
  go_enter Tryz.func92, Tryz.ntmps92
  go_wp2
  go_loopw [4, 5] (fun v iv wr => ∃ (i : Nat) (o : List Nat), i ≤ n ∧ iv = .int .i64 (i : Nat) ∧ Hid (i % 4 = 0) ∧ Hid (B8 o) ∧ Hid (o.length ≤ i) ∧ Hid (wr.ownsRow w.heap.size 5 1 v o.length (u8s o)) ∧ Hid (Below w.heap.size w wr)) (fun _ iv _ => n - (intOf iv).toNat)
  case atStart => exact ⟨0, [], Nat.zero_le _, rfl, rfl, (fun x hx => by cases hx), Nat.zero_le _, World.ownsRow_nil _ _ _ _, Below.refl _ _⟩
  case round =>
    obtain ⟨i, o, hi, rfl, H4, H8, HOL, HO, HB⟩ := hrel
    by_cases hlt : i < n
    · have h4 : i + 4 ≤ n := by have := H4.out; have := HOD.out; omega
      go_wp2
      go_loopw [6, 7, 8] (fun x nv kv wr => ∃ (X m k : Nat), k ≤ 4 ∧ m ≤ k ∧ x = .int .i64 (X : Nat) ∧ nv = .int .i64 (m : Nat) ∧ kv = .int .i64 (k : Nat) ∧ Hid (X < 64 ^ k) ∧ Hid (wr.ownsRow w.heap.size 5 1 u4 o.length (u8s o)) ∧ Hid (Below w.heap.size w wr)) (fun _ _ kv _ => 4 - (intOf kv).toNat)
      case atStart => exact ⟨0, 0, 0, by omega, by omega, rfl, rfl, rfl, (by show 0 < 1; decide), HO.out, HB.out⟩
      case round =>
        clear HO HB
        obtain ⟨X, m, k, hk, hmk, rfl, rfl, rfl, HX, HO, HB⟩ := hrel
        by_cases hk4 : k < 4
        · have hX := HX.out
          have hp := p64 k (by omega)
          have hX2 : X < 262144 := by omega
          have hX3 : X * 64 < 64 ^ (k + 1) := by rw [Nat.pow_succ]; omega
          have HX3 := Lib.hid hX3
          obtain ⟨c, hc⟩ : ∃ c, c = at0 l (i + k) := ⟨_, rfl⟩
          have hc8 : c < 256 := by rw [hc, HLS.out]; exact (bsN_8 s).at0 _
          have hidx : ∀ W, (Instr.index 9 (.string s) (.int .i64 ((i : Int) + (k : Int)))).run Tryz.prog W = .ok (.int .u8 (c : Nat)) W := by
            have := idx_str 9 Tryz.underlying9 s (i + k) c (by omega) (by rw [hc, HLS.out])
            rwa [show ((i + k : Nat) : Int) = (i : Int) + (k : Int) by omega] at this
          clear hc hX hp hX3
          rcases Classical.em (∃ d, d < 64 ∧ b64D d = c) with ⟨d, hd, hdc⟩ | hno
          · have HDC := Lib.hid hdc
            have ho : bits BinOp.or IntKind.i64 ((X : Int) * 64) (d : Int) = ((X * 64 + d : Nat) : Int) := i64_join X d 6 (by decide) (by omega) (by omega)
            obtain ⟨y, hy⟩ : ∃ y, y = X * 64 + d := ⟨_, rfl⟩
            have hyl : y < 64 ^ (k + 1) := by
              have := HX.out
              rw [Nat.pow_succ]; omega
            rw [← hy] at ho
            have HYL := Lib.hid hyl
            clear hdc hy hyl
            go_wp2_with (go_at_call 147; refine (f64_yes c d _ hd HDC.out).mono ?_; rintro e w3 ⟨rfl, rfl⟩)
            all_goals first
              | (go_ret2; exact ⟨rfl, HB.out⟩)
              | (go_roundw
                 case rel => exact ⟨y, m + 1, k + 1, by omega, by omega, rfl, by go_num, by go_num, HYL.out, HO.out, HB.out⟩
                 case measure => simp [intOf]; omega)
          · have hno2 : ∀ d, d < 64 → b64D d ≠ c := fun d hd he => hno ⟨d, hd, he⟩
            have HNL := Lib.hid hno2
            obtain ⟨y, hy⟩ : ∃ y, y = X * 64 := ⟨_, rfl⟩
            rw [← hy] at HX3
            have hy2 : (X : Int) * 64 = (y : Int) := by omega
            clear hno hno2 hy
            go_wp2_with (go_at_call 147; refine (f64_no c _ HNL.out).mono ?_; rintro e w3 ⟨rfl, rfl⟩)
            all_goals first
              | (go_ret2; exact ⟨rfl, HB.out⟩)
              | (go_roundw
                 case rel => exact ⟨y, m, k + 1, by omega, by omega, rfl, rfl, by go_num, HX3.out, HO.out, HB.out⟩
                 case measure => simp [intOf]; omega)
        · have hk8 : k = 4 := by omega
          have hX := HX.out
          rw [hk8] at hX
          have hX2 : X < 16777216 := hX
          have hq0 : decide ((k : Int) < 4) = false := decide_eq_false (by omega)
          have HK8 := Lib.hid hk8
          clear hk8
          have HOI : Hid (i + 4 ≤ n) := h4
          clear hX
          go_wp2
          go_loopw [4, 10] (fun v kv wr => ∃ (j : Nat) (o' : List Nat), kv = .int .i64 (j : Nat) ∧ j ≤ 3 ∧ (j = 0 ∨ j + 1 ≤ m) ∧ Hid (B8 o') ∧ Hid (o'.length = o.length + j) ∧ Hid (wr.ownsRow w.heap.size 5 1 v o'.length (u8s o')) ∧ Hid (Below w.heap.size w wr)) (fun _ kv _ => 4 - (intOf kv).toNat)
          case atStart => exact ⟨0, o, rfl, by omega, .inl rfl, H8.out, rfl, HO.out, HB.out⟩
          case round =>
            clear HO HB
            obtain ⟨j, o', rfl, hj, hjm, H8', HL', HO, HB⟩ := hrel
            have hm4 : m ≤ 4 := by have := HK8.out; omega
            have hwB := HB.out.size
            have hol := HOL.out
            have hol2 := HL'.out
            have hoB : o'.length ≤ 4398046511100 := by omega
            clear hol hol2
            by_cases hkm2 : j + 1 < m
            · have hq1 : decide ((j : Int) < (m : Int) - 1) = true := decide_eq_true (by omega)
              obtain ⟨q, hq⟩ : ∃ q, q = 16 - 8 * j := ⟨_, rfl⟩
              have e1 : (16 : Int) - 8 * (j : Int) = (q : Int) := by omega
              obtain ⟨F, hF⟩ : ∃ F, F = X / 2 ^ q := ⟨_, rfl⟩
              have e2 : (X : Int) / 2 ^ q = (F : Int) := by rw [hF]; simp
              have hFb : F < 16777216 := by rw [hF]; exact Nat.lt_of_le_of_lt (Nat.div_le_self _ _) hX2
              obtain ⟨z, hz⟩ : ∃ z, z = F % 256 := ⟨_, rfl⟩
              have e3 : (F : Int) % 256 = (z : Int) := by omega
              have e4 : IntKind.u8.wrap (F : Int) = (z : Int) := by
                rw [show IntKind.u8.wrap (F : Int) = (F : Int) % 256 from by simp [IntKind.wrap, IntKind.signed, IntKind.bits]]; exact e3
              have hz8 : z < 256 := by omega
              have H8z : Hid (B8 (o' ++ [z])) := H8'.out.append (fun y hy => by simp at hy; omega)
              have hq16 : q ≤ 16 := by omega
              have hm : min q 64 = q := by omega
              clear hq hF hz
              go_wp2_with (at_builtin; refine wpl_app 40 5 Tryz.underlying40 info8 rfl (by decide) rfl _ _ rfl w.heap.size _ o'.length (u8s o') rfl (HO.out.alloc _) wr.heap.size _ rfl (World.cell?_alloc_at _ _ _ _ rfl) rfl (by omega) (by simp; omega) ?_; intro g cap' w5 hown5 hg5 hBg _ _)
              have hO6 : w5.ownsRow w.heap.size 5 1 (.slice (some ⟨g, 0, none⟩) (o'.length + 1) cap') (o' ++ [z]).length (u8s (o' ++ [z])) := by rw [show u8s (o' ++ [z]) = u8s o' ++ [.int .u8 (z : Nat)] by simp [u8s], len_snoc]; exact hown5
              have hB6 : Below w.heap.size w w5 := (HB.out.alloc hwB _).grown hg5 (by simp; omega) (fun q hq => (World.ownsRow.lt HO.out q hq).1)
              have HO6 := Lib.hid hO6
              have HB6 := Lib.hid hB6
              clear hO6 hB6 hg5 hown5
              go_roundw
              case rel => exact ⟨j + 1, o' ++ [z], by go_num, by omega, .inr (by omega), H8z.out, by show _ = _; rw [len_snoc, HL'.out]; omega, HO6.out, HB6.out⟩
              case measure => simp [intOf]; omega
            · have hq1 : decide ((j : Int) < (m : Int) - 1) = false := decide_eq_false (by omega)
              have HOL2 : Hid (o'.length ≤ i + 4) := by show _ ≤ _; have := HL'.out; have := HOL.out; omega
              have h4' := H4.out
              go_wp2
              go_roundw
              case rel => exact ⟨i + 4, o', by omega, by go_num, by show _ = _; omega, H8'.out, HOL2.out, HO.out, HB.out⟩
              case measure => simp [intOf]; omega
    · have hol := HOL.out
      have hne := strN_ne (b64L_8 H8.out) (fun e => HNO.out o H8.out (by rw [HLS.out]; exact e))
      obtain ⟨a8, c8, hv8, hc8, hR8, _, _⟩ := own8_open HO.out
      subst hv8
      have HR8 := Lib.hid hR8
      have HNE := Lib.hid hne
      have ht8 : strN (b64L o) = strN (b64L o) := rfl
      obtain ⟨T, hT⟩ : ∃ T, T = strN (b64L o) := ⟨_, rfl⟩
      rw [← hT] at HNE
      have HT := Lib.hid hT
      have hne2 : (T.toList == s.toList) = false := HNE.out
      clear hne hR8 hT ht8
      go_wp2_with (go_at_call 51; refine (rbase64_any a8 o.length c8 o _ rfl (by omega) HR8.out H8.out).mono ?_; rintro e w3 ⟨rfl, hb3⟩; rw [← HT.out])
      go_ret2
      exact ⟨rfl, HB.out.trans (hb3.mono HB.out.size)⟩

theorem b64_group (cs : List Nat) (q : Nat) (h8 : B8 cs) (h : 3 * q < cs.length) (k : Nat) (hk : k < 4) :
    at0 (b64L cs) (4 * q + k) = if k < min 3 (cs.length - 3 * q) + 1 then b64D (dig4 (xk (cs.drop (3 * q)) 3) k) else 61 := by
  obtain ⟨c', hc⟩ : ∃ c', c' = cs.drop (3 * q) := ⟨_, rfl⟩
  have hl : c'.length = cs.length - 3 * q := by rw [hc, List.length_drop]
  have h8' : B8 c' := by rw [hc]; exact h8.drop _
  have e1 : b64L cs = b64L (cs.take (3 * q)) ++ b64L c' := by
    rw [hc, ← b64L_app _ _ (by rw [List.length_take]; omega), List.take_append_drop]
  have hl1 : (b64L (cs.take (3 * q))).length = 4 * q := by rw [b64L_len, List.length_take]; omega
  obtain ⟨n, hn⟩ : ∃ n, n = min 3 c'.length := ⟨_, rfl⟩
  have e2 : b64L c' = laid4 (xk c' 3) (n + 1) ++ b64L (c'.drop n) := by
    rw [laid4_piece h8' hn (by omega)]
    by_cases h3 : n = 3
    · rw [← b64L_app _ _ (by rw [List.length_take]; omega), List.take_append_drop]
    · rw [List.take_of_length_le (by omega), List.drop_of_length_le (by omega), b64L, List.append_nil]
  rw [e1, ← hl1, at0_append_right, e2, at0_append_left (by rw [laid4_len]; exact hk), ← hl, ← hc, ← hn]
  rw [at0_getElem (by rw [laid4_len]; exact hk)]
  simp [laid4]
theorem digs_zero4 {ys : List Nat} (h8 : B8 ys) (n k : Nat) (hn : n = min 3 ys.length) (h1 : 1 ≤ n) (hk : k < 4) (h : n + 1 ≤ k) : dig4 (xk ys 3) k = 0 := by
  have g0 := h8.at0 0
  have g1 := h8.at0 1
  have ex : xk ys 3 = at0 ys 0 * 65536 + at0 ys 1 * 256 + at0 ys 2 := by
    show ((0 * 256 + at0 ys 0) * 256 + at0 ys 1) * 256 + at0 ys 2 = _
    omega
  have z2 : at0 ys 2 = 0 := at0_out (by omega)
  rw [ex, z2]
  by_cases h2 : n = 1
  · rw [at0_out (show ys.length ≤ 1 by omega)]
    have : k = 2 ∨ k = 3 := by omega
    rcases this with rfl | rfl
    · show _ / 64 % 64 = 0; omega
    · show _ / 1 % 64 = 0; omega
  · have : k = 3 := by omega
    subst this
    show _ / 1 % 64 = 0; omega
theorem top_next (N k : Nat) (hk : k < 4) : N / 2 ^ (24 - 6 * (k + 1)) = N / 2 ^ (24 - 6 * k) * 64 + dig4 N k := by
  have : k = 0 ∨ k = 1 ∨ k = 2 ∨ k = 3 := by omega
  rcases this with rfl | rfl | rfl | rfl
  · show N / 262144 = N / 16777216 * 64 + N / 262144 % 64; omega
  · show N / 4096 = N / 262144 * 64 + N / 4096 % 64; omega
  · show N / 64 = N / 4096 * 64 + N / 64 % 64; omega
  · show N / 1 = N / 64 * 64 + N / 1 % 64; omega
theorem byte_of_xk {ys : List Nat} (h8 : B8 ys) (j : Nat) (hj : j < 3) : xk ys 3 / 2 ^ (16 - 8 * j) % 256 = at0 ys j := by
  have g0 := h8.at0 0
  have g1 := h8.at0 1
  have g2 := h8.at0 2
  have ex : xk ys 3 = at0 ys 0 * 65536 + at0 ys 1 * 256 + at0 ys 2 := by
    show ((0 * 256 + at0 ys 0) * 256 + at0 ys 1) * 256 + at0 ys 2 = _
    omega
  rw [ex]
  have : j = 0 ∨ j = 1 ∨ j = 2 := by omega
  rcases this with rfl | rfl | rfl
  · show _ / 65536 % 256 = _; omega
  · show _ / 256 % 256 = _; omega
  · show _ / 1 % 256 = _; omega

set_option maxHeartbeats 4000000 in
set_option maxRecDepth 100000 in
theorem run64_yes (s : ByteArray) (n : Nat) (w : World) (cs : List Nat) (hn : s.size = n) (hbig : n ≤ 1099511627776) (h8 : B8 cs) (he : b64L cs = bsN s) :
    Calls Tryz.prog 92 #[.string s] w fun e w' => (∃ v, e = .returned (.tuple #[v, .int .i64 0]) ∧ own8 w' w.heap.size v cs) ∧ Below w.heap.size w w' := by
  have hbl := bsN_len s
  rw [hn, ← he, b64L_len] at hbl
  have HE := Lib.hid he
  have HN := Lib.hid hbl
  have H8 := Lib.hid h8
  have hodd : n % 4 = 0 := by omega
  have hq : ((n : Int) % 4 != 0) = false := by simp; omega
  clear he hbl h8 hodd
  go_enter Tryz.func92, Tryz.ntmps92
  go_wp2
  go_loopw [4, 5] (fun v iv wr => ∃ (i q : Nat) (o : List Nat), i ≤ n ∧ iv = .int .i64 (i : Nat) ∧ Hid (i = 4 * q) ∧ Hid (o = cs.take (3 * q)) ∧ Hid (wr.ownsRow w.heap.size 5 1 v o.length (u8s o)) ∧ Hid (Below w.heap.size w wr)) (fun _ iv _ => n - (intOf iv).toNat)
  case atStart => exact ⟨0, 0, [], Nat.zero_le _, rfl, rfl, rfl, World.ownsRow_nil _ _ _ _, Below.refl _ _⟩
  case round =>
    obtain ⟨i, q, o, hi, rfl, HQ, HOC, HO, HB⟩ := hrel
    have hqn := HQ.out
    have hnn := HN.out
    by_cases hlt : i < n
    · have h3q : 3 * q < cs.length := by omega
      obtain ⟨ys, hys⟩ : ∃ ys, ys = cs.drop (3 * q) := ⟨_, rfl⟩
      have hy8 : B8 ys := by rw [hys]; exact H8.out.drop _
      have hyl : ys.length = cs.length - 3 * q := by rw [hys, List.length_drop]
      obtain ⟨nq, hnq⟩ : ∃ nq, nq = min 3 ys.length := ⟨_, rfl⟩
      have hnq1 : 1 ≤ nq := by omega
      have hnq3 : nq ≤ 3 := by omega
      have hlast : nq < 3 → n ≤ i + 4 := fun h => by omega
      have HLAST := Lib.hid hlast
      have hgr : ∀ k, k < 4 → at0 (bsN s) (i + k) = if k < nq + 1 then b64D (dig4 (xk ys 3) k) else 61 := fun k hk => by
        rw [← HE.out, HQ.out, b64_group cs q H8.out h3q k hk, ← hyl, ← hnq, ← hys]
      have HGR := Lib.hid hgr
      have hol : o.length = 3 * q := by rw [HOC.out, List.length_take]; omega
      have HOL := Lib.hid hol
      have HYS := Lib.hid hys
      have HY8 := Lib.hid hy8
      have HYL := Lib.hid hyl
      have HNQ := Lib.hid hnq
      have H3Q := Lib.hid h3q
      have hi4 : i + 4 ≤ n := by omega
      have hob : o.length ≤ 4398046511100 := by omega
      clear hqn hnn hys hy8 hyl hnq hlast hgr hol h3q
      go_wp2
      go_loopw [6, 7, 8] (fun x nv kv wr => ∃ (X m k : Nat), k ≤ 4 ∧ x = .int .i64 (X : Nat) ∧ nv = .int .i64 (m : Nat) ∧ kv = .int .i64 (k : Nat) ∧ Hid (m = min k (nq + 1)) ∧ Hid (X = xk ys 3 / 2 ^ (24 - 6 * k)) ∧ Hid (wr.ownsRow w.heap.size 5 1 u4 o.length (u8s o)) ∧ Hid (Below w.heap.size w wr)) (fun _ _ kv _ => 4 - (intOf kv).toNat)
      case atStart =>
        refine ⟨0, 0, 0, by omega, rfl, rfl, rfl, ?_, ?_, HO.out, HB.out⟩
        · show 0 = _; omega
        · show 0 = _
          have := xk_lt HY8.out 3
          exact (Nat.div_eq_of_lt (by simpa using this)).symm
      case round =>
        clear HO HB
        obtain ⟨X, m, k, hk, rfl, rfl, rfl, HM, HX, HO, HB⟩ := hrel
        by_cases hk4 : k < 4
        · have hXb : X < 16777216 / 64 := by
            have h1 := xk_lt HY8.out 3
            have h2 := HX.out
            have : 2 ^ 6 ≤ 2 ^ (24 - 6 * k) := Nat.pow_le_pow_right (by decide) (by omega)
            rw [h2]
            refine Nat.div_lt_of_lt_mul (Nat.lt_of_lt_of_le h1 ?_)
            have := Nat.mul_le_mul_right (16777216 / 64) this
            exact Nat.le_trans (by decide) this
          have hXb2 : X < 262144 := hXb
          have HTN := Lib.hid (top_next (xk ys 3) k hk4)
          obtain ⟨c, hc⟩ : ∃ c, c = at0 (bsN s) (i + k) := ⟨_, rfl⟩
          have hc8 : c < 256 := by rw [hc]; exact (bsN_8 s).at0 _
          have hidx : ∀ W, (Instr.index 9 (.string s) (.int .i64 ((i : Int) + (k : Int)))).run Tryz.prog W = .ok (.int .u8 (c : Nat)) W := by
            have := idx_str 9 Tryz.underlying9 s (i + k) c (by omega) hc.symm
            rwa [show ((i + k : Nat) : Int) = (i : Int) + (k : Int) by omega] at this
          have hcg := HGR.out k hk4
          rw [← hc] at hcg
          have hmm := HM.out
          clear hc hXb
          by_cases hkn : k < nq + 1
          · rw [if_pos hkn] at hcg
            obtain ⟨d, hd⟩ : ∃ d, d = dig4 (xk ys 3) k := ⟨_, rfl⟩
            have hd64 : d < 64 := by rw [hd, dig4]; exact Nat.mod_lt _ (by decide)
            have HDC : Hid (b64D d = c) := by show _ = _; rw [hcg, hd]
            have hmk : m = k := by omega
            subst hmk
            have ho : bits BinOp.or IntKind.i64 ((X : Int) * 64) (d : Int) = ((X * 64 + d : Nat) : Int) := i64_join X d 6 (by decide) (by omega) (by omega)
            obtain ⟨y, hy⟩ : ∃ y, y = X * 64 + d := ⟨_, rfl⟩
            have HY : Hid (y = xk ys 3 / 2 ^ (24 - 6 * (m + 1))) := by show _ = _; rw [HTN.out, ← HX.out, ← hd, hy]
            have HM2 : Hid (m + 1 = min (m + 1) (nq + 1)) := by show _ = _; omega
            rw [← hy] at ho
            clear hcg hmm hd hy
            go_wp2_with (go_at_call 147; refine (f64_yes c d _ hd64 HDC.out).mono ?_; rintro e w3 ⟨rfl, rfl⟩)
            go_roundw
            case rel => exact ⟨y, m + 1, m + 1, by omega, rfl, by go_num, by go_num, HM2.out, HY.out, HO.out, HB.out⟩
            case measure => simp [intOf]; omega
          · rw [if_neg hkn] at hcg
            have hd0 := digs_zero4 HY8.out nq k HNQ.out hnq1 hk4 (by omega)
            have hil := HLAST.out (by omega)
            have HNO : Hid (∀ d, d < 64 → b64D d ≠ 61) := fun d hd => (b64D_lt hd).2
            subst hcg
            obtain ⟨y, hy⟩ : ∃ y, y = X * 64 := ⟨_, rfl⟩
            have HY : Hid (y = xk ys 3 / 2 ^ (24 - 6 * (k + 1))) := by show _ = _; rw [HTN.out, ← HX.out, hd0, hy]; rfl
            have HM2 : Hid (m = min (k + 1) (nq + 1)) := by show _ = _; omega
            have hy2 : (X : Int) * 64 = (y : Int) := by omega
            have hk2 : 2 ≤ k := by omega
            clear hmm hd0 hy
            go_wp2_with (go_at_call 147; refine (f64_no 61 _ HNO.out).mono ?_; rintro e w3 ⟨rfl, rfl⟩)
            go_roundw
            case rel => exact ⟨y, m, k + 1, by omega, rfl, rfl, by go_num, HM2.out, HY.out, HO.out, HB.out⟩
            case measure => simp [intOf]; omega
        · have hk8 : k = 4 := by omega
          have hX := HX.out
          have hM := HM.out
          rw [hk8] at hX hM
          have hX0 : X = xk ys 3 := by rw [hX]; exact Nat.div_one _
          have hm : m = nq + 1 := by omega
          have hXb : X < 16777216 := by rw [hX0]; exact xk_lt HY8.out 3
          have hq0 : decide ((k : Int) < 4) = false := decide_eq_false (by omega)
          have HX0 := Lib.hid hX0
          have HMM := Lib.hid hm
          have hm4 : m ≤ 4 := by omega
          clear hX hM hX0 hm hk8
          go_wp2
          go_loopw [4, 10] (fun v kv wr => ∃ (j : Nat) (o' : List Nat), kv = .int .i64 (j : Nat) ∧ j ≤ nq ∧ Hid (o' = o ++ ys.take j) ∧ Hid (wr.ownsRow w.heap.size 5 1 v o'.length (u8s o')) ∧ Hid (Below w.heap.size w wr)) (fun _ kv _ => 4 - (intOf kv).toNat)
          case atStart => exact ⟨0, o, rfl, by omega, by show _ = _; simp, HO.out, HB.out⟩
          case round =>
            clear HO HB
            obtain ⟨j, o', rfl, hj, HO', HO, HB⟩ := hrel
            have hwB := HB.out.size
            have hol : o'.length ≤ o.length + 3 := by rw [HO'.out, List.length_append, List.length_take]; omega
            have hmm := HMM.out
            by_cases hjn : j < nq
            · have hq1 : decide ((j : Int) < (m : Int) - 1) = true := decide_eq_true (by omega)
              obtain ⟨r, hr⟩ : ∃ r, r = 16 - 8 * j := ⟨_, rfl⟩
              have e1 : (16 : Int) - 8 * (j : Int) = (r : Int) := by omega
              obtain ⟨F, hF⟩ : ∃ F, F = X / 2 ^ r := ⟨_, rfl⟩
              have e2 : (X : Int) / 2 ^ r = (F : Int) := by rw [hF]; simp
              have hFb : F < 16777216 := by rw [hF]; exact Nat.lt_of_le_of_lt (Nat.div_le_self _ _) hXb
              obtain ⟨z, hz⟩ : ∃ z, z = F % 256 := ⟨_, rfl⟩
              have hzy : z = at0 ys j := by rw [hz, hF, hr, HX0.out]; exact byte_of_xk HY8.out j (by omega)
              have e3 : (F : Int) % 256 = (z : Int) := by omega
              have e4 : IntKind.u8.wrap (F : Int) = (z : Int) := by
                rw [show IntKind.u8.wrap (F : Int) = (F : Int) % 256 from by simp [IntKind.wrap, IntKind.signed, IntKind.bits]]; exact e3
              have hz8 : z < 256 := by omega
              have HOZ : Hid (o' ++ [z] = o ++ ys.take (j + 1)) := by
                show _ = _
                rw [HO'.out, take_succ_at0 (by have := HNQ.out; omega), hzy, List.append_assoc]
              have hq16 : r ≤ 16 := by omega
              have hm : min r 64 = r := by omega
              clear hr hF hz hzy hmm
              go_wp2_with (at_builtin; refine wpl_app 40 5 Tryz.underlying40 info8 rfl (by decide) rfl _ _ rfl w.heap.size _ o'.length (u8s o') rfl (HO.out.alloc _) wr.heap.size _ rfl (World.cell?_alloc_at _ _ _ _ rfl) rfl (by omega) (by simp; omega) ?_; intro g cap' w5 hown5 hg5 hBg _ _)
              have hO6 : w5.ownsRow w.heap.size 5 1 (.slice (some ⟨g, 0, none⟩) (o'.length + 1) cap') (o' ++ [z]).length (u8s (o' ++ [z])) := by rw [show u8s (o' ++ [z]) = u8s o' ++ [.int .u8 (z : Nat)] by simp [u8s], len_snoc]; exact hown5
              have hB6 : Below w.heap.size w w5 := (HB.out.alloc hwB _).grown hg5 (by simp; omega) (fun q hq => (World.ownsRow.lt HO.out q hq).1)
              have HO6 := Lib.hid hO6
              have HB6 := Lib.hid hB6
              clear hO6 hB6 hg5 hown5
              go_roundw
              case rel => exact ⟨j + 1, o' ++ [z], by go_num, by omega, HOZ.out, HO6.out, HB6.out⟩
              case measure => simp [intOf]; omega
            · have hq1 : decide ((j : Int) < (m : Int) - 1) = false := decide_eq_false (by omega)
              have HOE : Hid (o' = cs.take (3 * (q + 1))) := by
                show _ = _
                have hjn2 : j = nq := by omega
                have hnq := HNQ.out
                have hyl := HYL.out
                rw [HO'.out, HOC.out, hjn2, HYS.out, ← List.take_add]
                by_cases h3 : nq = 3
                · rw [h3, show 3 * q + 3 = 3 * (q + 1) by omega]
                · rw [List.take_of_length_le (by omega), List.take_of_length_le (by omega)]
              have HI2 : Hid (i + 4 = 4 * (q + 1)) := by show _ = _; have := HQ.out; omega
              clear hmm
              go_wp2
              go_roundw
              case rel => exact ⟨i + 4, q + 1, o', by omega, by go_num, HI2.out, HOE.out, HO.out, HB.out⟩
              case measure => simp [intOf]; omega
    · have hocs : o = cs := by rw [HOC.out, List.take_of_length_le (by omega)]
      subst hocs
      obtain ⟨a8, c8, hv8, hc8, hR8, _, _⟩ := own8_open HO.out
      have hob : o.length ≤ 1099511627776 := by omega
      have HV8 := Lib.hid hv8
      subst hv8
      have HR8 := Lib.hid hR8
      have hse : strN (b64L o) = s := strN_eq HE.out
      have HSE := Lib.hid hse
      have hss : (s.toList == s.toList) = true := by simp
      clear hR8 hse hqn hnn
      go_wp2_with (go_at_call 51; refine (rbase64_any a8 o.length c8 o _ rfl hob HR8.out H8.out).mono ?_; rintro e w3 ⟨rfl, hb3⟩; rw [HSE.out])
      go_ret2
      exact ⟨⟨_, rfl, (Chg.of_below hb3).owns HO.out (fun k hk => by have := (World.ownsRow.lt HO.out k hk).2; omega)⟩, HB.out.trans (hb3.mono HB.out.size)⟩
/-- What the reference reads out of a text in base64. -/
theorem run64_any (s : ByteArray) (n : Nat) (w : World) (hn : s.size = n) (hbig : n ≤ 1099511627776) :
    Calls Tryz.prog 92 #[.string s] w (Un64Post (bsN s) w) := by
  rcases Classical.em (∃ c, B8 c ∧ b64L c = bsN s) with ⟨c, h8, he⟩ | hno
  · refine (run64_yes s n w c hn hbig h8 he).mono ?_
    rintro e w' ⟨⟨v, rfl, ho⟩, hb⟩
    refine ⟨hb, v, 0, c, rfl, ho, .inl ⟨rfl, h8, he⟩, ?_⟩
    rw [← he, b64L_len]; omega
  · have hno2 : ∀ c, B8 c → b64L c ≠ bsN s := fun c h8 he => hno ⟨c, h8, he⟩
    refine (run64_no s n w hn hbig hno2).mono ?_
    rintro e w' ⟨rfl, hb⟩
    exact Un64Post.no hb (.inr ⟨rfl, rfl, hno2⟩)
end Go.Proofs.YtaookoejdnkkoaaGreatDoor
