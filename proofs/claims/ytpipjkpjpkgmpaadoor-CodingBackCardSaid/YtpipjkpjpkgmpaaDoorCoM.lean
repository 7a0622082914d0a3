import Derived.Test.YtpipjkpjpkgmpaaDoorCoL
namespace Go.Proofs.YtpipjkpjpkgmpaaDoor
open Go.RowKit

theorem b64Lit_bs (d : Nat) (h : d < 64) : at0 (bsN b64Lit) d = b64D d := by
  rw [bsN_at b64Lit d h]
  exact b64Lit_at d h
theorem f64_no (c : Nat) (w : World) (hn : ∀ d, d < 64 → b64D d ≠ c) :
    Calls Tryd.prog 47 #[.string ⟨#[65, 66, 67, 68, 69, 70, 71, 72, 73, 74, 75, 76, 77, 78, 79, 80, 81, 82, 83, 84, 85, 86, 87, 88, 89, 90, 97, 98, 99, 100, 101, 102, 103, 104, 105, 106, 107, 108, 109, 110, 111, 112, 113, 114, 115, 116, 117, 118, 119, 120, 121, 122, 48, 49, 50, 51, 52, 53, 54, 55, 56, 57, 43, 47]⟩, .int .u8 (c : Nat)] w fun e w' => e = .returned (.int .i64 (-1)) ∧ w = w' :=
  find_no b64Lit c w (by rw [b64Lit_size]; decide) (fun i hi => by rw [b64Lit_size] at hi; rw [b64Lit_bs i hi]; exact hn i hi)
theorem f64_yes (c d : Nat) (w : World) (hd : d < 64) (hy : b64D d = c) :
    Calls Tryd.prog 47 #[.string ⟨#[65, 66, 67, 68, 69, 70, 71, 72, 73, 74, 75, 76, 77, 78, 79, 80, 81, 82, 83, 84, 85, 86, 87, 88, 89, 90, 97, 98, 99, 100, 101, 102, 103, 104, 105, 106, 107, 108, 109, 110, 111, 112, 113, 114, 115, 116, 117, 118, 119, 120, 121, 122, 48, 49, 50, 51, 52, 53, 54, 55, 56, 57, 43, 47]⟩, .int .u8 (c : Nat)] w fun e w' => e = .returned (.int .i64 (d : Nat)) ∧ w = w' :=
  find_yes b64Lit c d w (by rw [b64Lit_size]; decide) (by rw [b64Lit_size]; exact hd) (by rw [b64Lit_bs d hd]; exact hy) (fun i hi e => by
    rw [b64Lit_bs i (by omega), ← hy] at e
    have := b64D_inj (by omega) hd e
    omega)
theorem strN_ne {a : List Nat} {s : ByteArray} (h : B8 a) (hne : a ≠ bsN s) : ((strN a).toList == s.toList) = false := by
  rw [beq_eq_false_iff_ne]
  intro e
  refine hne ?_
  rw [← bsN_strN h]
  show (strN a).data.toList.map _ = s.data.toList.map _
  rw [← ByteArray.toList_eq, ← ByteArray.toList_eq, e]
theorem strN_eq {a : List Nat} {s : ByteArray} (he : a = bsN s) : strN a = s := by rw [he, strN_bsN]
theorem b64L_8 {b : List Nat} (h : B8 b) : B8 (b64L b) := fun x hx => by
  rw [b64L_enc] at hx
  rcases List.mem_append.1 hx with h1 | h1
  · obtain ⟨y, hy, rfl⟩ := List.mem_map.1 h1
    have := (b64D_lt (encW_64 b h y hy)).1
    omega
  · have := List.eq_of_mem_replicate h1
    omega
theorem own8_open {w : World} {B : Nat} {v : Value} {zs : List Nat} (h : w.ownsRow B 5 1 v zs.length (u8s zs)) : ∃ a c, v = .slice a zs.length c ∧ zs.length ≤ c ∧ Rd .u8 w a zs ∧ (a = none → c = 0) ∧ c ≤ 9223372036854775807 := by
  rcases h.2 with ⟨hv, h0⟩ | ⟨g, c, cur, hv, _, _, hn, hm, _, _⟩
  · subst hv
    refine ⟨none, 0, by rw [h0], by omega, fun j hj => by omega, fun _ => rfl, by decide⟩
  · subst hv
    exact ⟨_, c, rfl, hn, own_rdw h, (fun h => by cases h), hm⟩
theorem p64 (k : Nat) (h : k ≤ 3) : 64 ^ k ≤ 262144 := by
  rcases k with _ | _ | _ | _ | k <;> first | decide | omega

set_option maxHeartbeats 4000000 in
set_option maxRecDepth 100000 in
theorem run64_no (s : ByteArray) (n : Nat) (w : World) (hn : s.size = n) (hbig : n ≤ 1099511627776) (hno : ∀ c, B8 c → b64L c ≠ bsN s) :
    Calls Tryd.prog 32 #[.string s] w fun e w' => e = .returned (.tuple #[.slice none 0 0, .int .i64 61]) ∧ Below w.heap.size w w' := by
  have hbl := bsN_len s
  obtain ⟨l, hl⟩ : ∃ l, l = bsN s := ⟨_, rfl⟩
  rw [← hl] at hbl hno
  rw [hn] at hbl
  have HLS := Lib.hid hl
  have HLN := Lib.hid hbl
  have HNO := Lib.hid hno
  clear hno
  by_cases hodd : n % 4 = 0
  case neg =>
    have hq : ((n : Int) % 4 != 0) = true := by simp; omega
    clear hl hbl
    go_enter Tryd.func32, Tryd.ntmps32
    go_wp2
    go_ret2
    exact ⟨rfl, Below.refl _ _⟩
  have hq : ((n : Int) % 4 != 0) = false := by simp; omega
  have HOD := Lib.hid hodd
  clear hl hbl hodd
  go_enter Tryd.func32, Tryd.ntmps32
  go_wp2
  go_loopw [4, 5] (fun v iv wr => ∃ (i : Nat) (o : List Nat), i ≤ n ∧ iv = .int .i64 (i : Nat) ∧ Hid (i % 4 = 0) ∧ Hid (B8 o) ∧ Hid (o.length ≤ i) ∧ Hid (wr.ownsRow w.heap.size 5 1 v o.length (u8s o)) ∧ Hid (Below w.heap.size w wr)) (fun _ iv _ => n - (intOf iv).toNat)
  case atStart => exact ⟨0, [], Nat.zero_le _, rfl, rfl, (fun x hx => by cases hx), Nat.zero_le _, World.ownsRow_nil _ _ _ _, Below.refl _ _⟩
  case round =>
    obtain ⟨i, o, hi, rfl, H4, H8, HOL, HO, HB⟩ := hrel
    by_cases hlt : i < n
    · have h4 : i + 4 ≤ n := by have := H4.out; have := HOD.out; omega
      go_wp2
      go_loopw [6, 7, 8] (fun x nv kv wr => ∃ (X m k : Nat), k ≤ 4 ∧ m ≤ k ∧ x = .int .i64 (X : Nat) ∧ nv = .int .i64 (m : Nat) ∧ kv = .int .i64 (k : Nat) ∧ Hid (X < 64 ^ k) ∧ Hid (wr.ownsRow w.heap.size 5 1 u4 o.length (u8s o)) ∧ Hid (Below w.heap.size w wr)) (fun _ _ kv _ => 4 - (intOf kv).toNat)
      case atStart => exact ⟨0, 0, 0, by omega, by omega, rfl, rfl, rfl, (by show 0 < 1; decide), HO.out, HB.out⟩
      case round =>
        clear HO HB
        obtain ⟨X, m, k, hk, hmk, rfl, rfl, rfl, HX, HO, HB⟩ := hrel
        by_cases hk4 : k < 4
        · have hX := HX.out
          have hp := p64 k (by omega)
          have hX2 : X < 262144 := by omega
          have hX3 : X * 64 < 64 ^ (k + 1) := by rw [Nat.pow_succ]; omega
          have HX3 := Lib.hid hX3
          obtain ⟨c, hc⟩ : ∃ c, c = at0 l (i + k) := ⟨_, rfl⟩
          have hc8 : c < 256 := by rw [hc, HLS.out]; exact (bsN_8 s).at0 _
          have hidx : ∀ W, (Instr.index 9 (.string s) (.int .i64 ((i : Int) + (k : Int)))).run Tryd.prog W = .ok (.int .u8 (c : Nat)) W := by
            have := idx_str 9 Tryd.underlying9 s (i + k) c (by omega) (by rw [hc, HLS.out])
            rwa [show ((i + k : Nat) : Int) = (i : Int) + (k : Int) by omega] at this
          clear hc hX hp hX3
          rcases Classical.em (∃ d, d < 64 ∧ b64D d = c) with ⟨d, hd, hdc⟩ | hno
          · have HDC := Lib.hid hdc
            have ho : bits BinOp.or IntKind.i64 ((X : Int) * 64) (d : Int) = ((X * 64 + d : Nat) : Int) := i64_join X d 6 (by decide) (by omega) (by omega)
            obtain ⟨y, hy⟩ : ∃ y, y = X * 64 + d := ⟨_, rfl⟩
            have hyl : y < 64 ^ (k + 1) := by
              have := HX.out
              rw [Nat.pow_succ]; omega
            rw [← hy] at ho
            have HYL := Lib.hid hyl
            clear hdc hy hyl
            go_wp2_with (go_at_call 47; refine (f64_yes c d _ hd HDC.out).mono ?_; rintro e w3 ⟨rfl, rfl⟩)
            all_goals first
              | (go_ret2; exact ⟨rfl, HB.out⟩)
              | (go_roundw
                 case rel => exact ⟨y, m + 1, k + 1, by omega, by omega, rfl, by go_num, by go_num, HYL.out, HO.out, HB.out⟩
                 case measure => simp [intOf]; omega)
          · have hno2 : ∀ d, d < 64 → b64D d ≠ c := fun d hd he => hno ⟨d, hd, he⟩
            have HNL := Lib.hid hno2
            obtain ⟨y, hy⟩ : ∃ y, y = X * 64 := ⟨_, rfl⟩
            rw [← hy] at HX3
            have hy2 : (X : Int) * 64 = (y : Int) := by omega
            clear hno hno2 hy
            go_wp2_with (go_at_call 47; refine (f64_no c _ HNL.out).mono ?_; rintro e w3 ⟨rfl, rfl⟩)
            all_goals first
              | (go_ret2; exact ⟨rfl, HB.out⟩)
              | (go_roundw
                 case rel => exact ⟨y, m, k + 1, by omega, by omega, rfl, rfl, by go_num, HX3.out, HO.out, HB.out⟩
                 case measure => simp [intOf]; omega)
        · have hk8 : k = 4 := by omega
          have hX := HX.out
          rw [hk8] at hX
          have hX2 : X < 16777216 := hX
          have hq0 : decide ((k : Int) < 4) = false := decide_eq_false (by omega)
          have HK8 := Lib.hid hk8
          clear hk8
          have HOI : Hid (i + 4 ≤ n) := h4
          clear hX
          go_wp2
          go_loopw [4, 10] (fun v kv wr => ∃ (j : Nat) (o' : List Nat), kv = .int .i64 (j : Nat) ∧ j ≤ 3 ∧ (j = 0 ∨ j + 1 ≤ m) ∧ Hid (B8 o') ∧ Hid (o'.length = o.length + j) ∧ Hid (wr.ownsRow w.heap.size 5 1 v o'.length (u8s o')) ∧ Hid (Below w.heap.size w wr)) (fun _ kv _ => 4 - (intOf kv).toNat)
          case atStart => exact ⟨0, o, rfl, by omega, .inl rfl, H8.out, rfl, HO.out, HB.out⟩
          case round =>
            clear HO HB
            obtain ⟨j, o', rfl, hj, hjm, H8', HL', HO, HB⟩ := hrel
            have hm4 : m ≤ 4 := by have := HK8.out; omega
            have hwB := HB.out.size
            have hol := HOL.out
            have hol2 := HL'.out
            have hoB : o'.length ≤ 4398046511100 := by omega
            clear hol hol2
            by_cases hkm2 : j + 1 < m
            · have hq1 : decide ((j : Int) < (m : Int) - 1) = true := decide_eq_true (by omega)
              obtain ⟨q, hq⟩ : ∃ q, q = 16 - 8 * j := ⟨_, rfl⟩
              have e1 : (16 : Int) - 8 * (j : Int) = (q : Int) := by omega
              obtain ⟨F, hF⟩ : ∃ F, F = X / 2 ^ q := ⟨_, rfl⟩
              have e2 : (X : Int) / 2 ^ q = (F : Int) := by rw [hF]; simp
              have hFb : F < 16777216 := by rw [hF]; exact Nat.lt_of_le_of_lt (Nat.div_le_self _ _) hX2
              obtain ⟨z, hz⟩ : ∃ z, z = F % 256 := ⟨_, rfl⟩
              have e3 : (F : Int) % 256 = (z : Int) := by omega
              have e4 : IntKind.u8.wrap (F : Int) = (z : Int) := by
                rw [show IntKind.u8.wrap (F : Int) = (F : Int) % 256 from by simp [IntKind.wrap, IntKind.signed, IntKind.bits]]; exact e3
              have hz8 : z < 256 := by omega
              have H8z : Hid (B8 (o' ++ [z])) := H8'.out.append (fun y hy => by simp at hy; omega)
              have hq16 : q ≤ 16 := by omega
              have hm : min q 64 = q := by omega
              clear hq hF hz
              go_wp2_with (at_builtin; refine wpl_app 25 5 Tryd.underlying25 info8 rfl (by decide) rfl _ _ rfl w.heap.size _ o'.length (u8s o') rfl (HO.out.alloc _) wr.heap.size _ rfl (World.cell?_alloc_at _ _ _ _ rfl) rfl (by omega) (by simp; omega) ?_; intro g cap' w5 hown5 hg5 hBg _ _)
              have hO6 : w5.ownsRow w.heap.size 5 1 (.slice (some ⟨g, 0, none⟩) (o'.length + 1) cap') (o' ++ [z]).length (u8s (o' ++ [z])) := by rw [show u8s (o' ++ [z]) = u8s o' ++ [.int .u8 (z : Nat)] by simp [u8s], len_snoc]; exact hown5
              have hB6 : Below w.heap.size w w5 := (HB.out.alloc hwB _).grown hg5 (by simp; omega) (fun q hq => (World.ownsRow.lt HO.out q hq).1)
              have HO6 := Lib.hid hO6
              have HB6 := Lib.hid hB6
              clear hO6 hB6 hg5 hown5
              go_roundw
              case rel => exact ⟨j + 1, o' ++ [z], by go_num, by omega, .inr (by omega), H8z.out, by show _ = _; rw [len_snoc, HL'.out]; omega, HO6.out, HB6.out⟩
              case measure => simp [intOf]; omega
            · have hq1 : decide ((j : Int) < (m : Int) - 1) = false := decide_eq_false (by omega)
              have HOL2 : Hid (o'.length ≤ i + 4) := by show _ ≤ _; have := HL'.out; have := HOL.out; omega
              have h4' := H4.out
              go_wp2
              go_roundw
              case rel => exact ⟨i + 4, o', by omega, by go_num, by show _ = _; omega, H8'.out, HOL2.out, HO.out, HB.out⟩
              case measure => simp [intOf]; omega
    · have hol := HOL.out
      have hne := strN_ne (b64L_8 H8.out) (fun e => HNO.out o H8.out (by rw [HLS.out]; exact e))
      obtain ⟨a8, c8, hv8, hc8, hR8, _, _⟩ := own8_open HO.out
      subst hv8
      have HR8 := Lib.hid hR8
      have HNE := Lib.hid hne
      have ht8 : strN (b64L o) = strN (b64L o) := rfl
      obtain ⟨T, hT⟩ : ∃ T, T = strN (b64L o) := ⟨_, rfl⟩
      rw [← hT] at HNE
      have HT := Lib.hid hT
      have hne2 : (T.toList == s.toList) = false := HNE.out
      clear hne hR8 hT ht8
      go_wp2_with (go_at_call 27; refine (rbase64_any a8 o.length c8 o _ rfl (by omega) HR8.out H8.out).mono ?_; rintro e w3 ⟨rfl, hb3⟩; rw [← HT.out])
      go_ret2
      exact ⟨rfl, HB.out.trans (hb3.mono HB.out.size)⟩
end Go.Proofs.YtpipjkpjpkgmpaaDoor
