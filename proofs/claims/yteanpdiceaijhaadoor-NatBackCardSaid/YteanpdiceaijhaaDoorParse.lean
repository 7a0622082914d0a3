import Derived.Test.YteanpdiceaijhaaDoorParts
import Derived.Test.YteanpdiceaijhaaDoorFam
namespace Go.Proofs.YteanpdiceaijhaaDoor
open Go.RowKit

theorem foldl_dval (l : List UInt8) (n : Nat) : l.foldl (fun n c => 10 * n + (c.toNat - 48)) n = n * 10 ^ l.length + dval l := by
  induction l generalizing n with
  | nil => simp [dval]
  | cons c l ih =>
    have h1 := ih (10 * n + (c.toNat - 48))
    have h2 := ih (10 * 0 + (c.toNat - 48))
    unfold dval
    rw [List.foldl_cons, List.foldl_cons, h1, h2, List.length_cons, Nat.pow_succ]
    generalize 10 ^ l.length = p
    rw [Nat.add_mul, Nat.add_mul, Nat.mul_comm p 10, ← Nat.mul_assoc, Nat.mul_comm n 10]
    omega
theorem dval_append (a b : List UInt8) : dval (a ++ b) = dval a * 10 ^ b.length + dval b := by
  show (a ++ b).foldl _ 0 = _
  rw [List.foldl_append, foldl_dval]
  rfl
theorem dval_cons (c : UInt8) (l : List UInt8) : dval (c :: l) = (c.toNat - 48) * 10 ^ l.length + dval l := by
  have := dval_append [c] l
  simpa [dval] using this
theorem dval_lt (l : List UInt8) (h : ∀ c ∈ l, isDig c = true) : dval l < 10 ^ l.length := by
  induction l with
  | nil => simp [dval]
  | cons c l ih =>
    have h1 := ih (fun x hx => h x (by simp [hx]))
    have h2 : 48 ≤ c.toNat ∧ c.toNat ≤ 57 := by simpa [isDig] using h c (by simp)
    rw [dval_cons, List.length_cons, Nat.pow_succ]
    generalize 10 ^ l.length = p at *
    have h3 : (c.toNat - 48) * p ≤ 9 * p := Nat.mul_le_mul_right _ (by omega)
    omega

set_option maxHeartbeats 1000000 in
theorem worth_any (s : ByteArray) (w : World) (hs : s.size ≤ 19) (hd : ∀ c ∈ s.data.toList, isDig c = true) :
    Calls Tryd.prog 81 #[.string s] w fun e w' => e = .returned (.int .u64 (dval s.data.toList : Nat)) ∧ w = w' := by
  have hlen := bytes_len s
  have HD := Lib.hid hd
  clear hd
  go_enter Tryd.func81, Tryd.ntmps81
  go_wp2
  go_loop [3, 7] (fun v i => ∃ (k n : Nat), k ≤ s.size ∧ i = .int .i64 k ∧ v = .int .u64 n ∧ Hid (n = dval (s.data.toList.take k))) (fun _ i => s.size - (intOf i).toNat)
  case atStart => exact ⟨0, 0, Nat.zero_le _, rfl, rfl, by show _ = _; simp [dval]⟩
  case round =>
    obtain ⟨k, n, hk, rfl, rfl, HN⟩ := hrel
    by_cases hlt : k < s.size
    · have HS := Lib.hid (bytes_take_snoc s k hlt)
      have h1 : 48 ≤ s[k].toNat ∧ s[k].toNat ≤ 57 := by
        have := HD.out s[k] (by rw [← Array.mem_def]; exact Array.getElem_mem hlt)
        simpa [isDig] using this
      obtain ⟨h1, h2⟩ := h1
      have h3 : n ≤ 999999999999999999 := by
        have := dval_lt (s.data.toList.take k) (fun c hc => HD.out c (List.mem_of_mem_take hc))
        rw [← HN.out, List.length_take, Nat.min_eq_left (by omega)] at this
        have h4 : 10 ^ k ≤ 10 ^ 18 := Nat.pow_le_pow_right (by decide) (by omega)
        omega
      go_wp2
      go_round
      case rel => exact ⟨k + 1, 10 * n + (s[k].toNat - 48), by omega, by go_num, lit64 (by omega), by show _ = _; rw [HS.out, dval_snoc, HN.out]⟩
      case measure => simp [intOf]; omega
    · obtain rfl : k = s.size := by omega
      go_wp2
      go_ret
      exact ⟨by have := HN.out; rw [List.take_of_length_le (by omega)] at this; rw [← this]; rfl, rfl⟩

theorem raisePart_empty (p : Nat) (w : World) : Calls Tryd.prog 80 #[.slice none 0 0, .int .u64 p] w fun e w' => e = .returned (.int .u64 p) ∧ w = w' := by
  go_enter Tryd.func80, Tryd.ntmps80
  go_wp2
  refine wp_loop_rounds 1 ?_
  rw [rounds_succ]
  go_wp2
  go_ret
  exact ⟨rfl, rfl⟩

/-- The digits' text, noughts ahead struck. -/
theorem dval_trim (l : List UInt8) : dval (Lib.trimLeftB l 48) = dval l := by
  induction l with
  | nil => rfl
  | cons c l ih =>
    unfold Lib.trimLeftB at ih ⊢
    rw [List.dropWhile_cons]
    by_cases h : (c == 48) = true
    · rw [if_pos h, ih, dval_cons]
      obtain rfl : c = 48 := by simpa using h
      simp
    · rw [if_neg h]
theorem trim_len (l : List UInt8) : (Lib.trimLeftB l 48).length ≤ l.length := by
  unfold Lib.trimLeftB; exact (List.dropWhile_suffix _).length_le
theorem trim_sub (l : List UInt8) : ∀ c ∈ Lib.trimLeftB l 48, c ∈ l := fun _ h => (List.dropWhile_suffix _).subset h
theorem trim_head (l : List UInt8) (c : UInt8) (t : List UInt8) (h : Lib.trimLeftB l 48 = c :: t) : c ≠ 48 := by
  induction l with
  | nil => cases h
  | cons x l ih =>
    unfold Lib.trimLeftB at ih h
    rw [List.dropWhile_cons] at h
    by_cases hx : (x == 48) = true
    · rw [if_pos hx] at h; exact ih h
    · rw [if_neg hx] at h
      injection h with h1 h2
      subst h1
      simpa using hx
theorem big_digits : 18446744073709551616 ^ 128 ≤ 10 ^ 2467 := by decide +kernel
theorem dval_ge (l : List UInt8) (c : UInt8) (t : List UInt8) (hd : ∀ c ∈ l, isDig c = true) (h : Lib.trimLeftB l 48 = c :: t) : 10 ^ t.length ≤ dval l := by
  have h1 := trim_head l c t h
  have h2 : 48 ≤ c.toNat ∧ c.toNat ≤ 57 := by simpa [isDig] using hd c (trim_sub l c (by rw [h]; simp))
  rw [← dval_trim, h, dval_cons]
  have h3 : c.toNat ≠ 48 := fun e => h1 (UInt8.toNat_inj.1 e)
  have h4 : 1 * 10 ^ t.length ≤ (c.toNat - 48) * 10 ^ t.length := Nat.mul_le_mul_right _ (by omega)
  omega

/-- What Parse answers. -/
def ParsePost (l : List UInt8) (w : World) (e : Ending) (w' : World) : Prop :=
  Below w.heap.size w w' ∧
  ((65536 < l.length ∧ e = .returned (.tuple #[.slice none 0 0, .int .i64 3])) ∨
   (l.length ≤ 65536 ∧ decB l = false ∧ e = .returned (.tuple #[.slice none 0 0, .int .i64 12])) ∨
   (l.length ≤ 65536 ∧ decB l = true ∧ 18446744073709551616 ^ 128 ≤ dval l ∧ e = .returned (.tuple #[.slice none 0 0, .int .i64 3])) ∨
   (l.length ≤ 65536 ∧ decB l = true ∧ dval l < 18446744073709551616 ^ 128 ∧ ∃ v zs, e = .returned (.tuple #[v, .int .i64 0]) ∧ own64 w' w.heap.size v zs ∧ Num zs (dval l)))

theorem ext_front (l : List UInt8) (m : Nat) : (⟨l.toArray⟩ : ByteArray).extract 0 m = ⟨(l.take m).toArray⟩ := by
  have h := ByteArray.data_extract (a := (⟨l.toArray⟩ : ByteArray)) (b := 0) (e := m)
  cases hx : (⟨l.toArray⟩ : ByteArray).extract 0 m with
  | mk d => rw [hx] at h; simp at h; rw [h]
theorem ext_back (l : List UInt8) (m k : Nat) (hk : k = l.length) : (⟨l.toArray⟩ : ByteArray).extract m k = ⟨(l.drop m).toArray⟩ := by
  have h := ByteArray.data_extract (a := (⟨l.toArray⟩ : ByteArray)) (b := m) (e := k)
  cases hx : (⟨l.toArray⟩ : ByteArray).extract m k with
  | mk d => rw [hx] at h; simp at h; rw [h, hk, List.take_of_length_le (by simp)]
def strLen : Value → Nat | .string b => b.size | _ => 0
theorem strLen_list (l : List UInt8) : strLen (.string ⟨l.toArray⟩) = l.length := by simp [strLen, ByteArray.size]
theorem own64_nil (w : World) (B : Nat) : own64 w B (.slice none 0 0) [] := World.ownsRow_nil _ _ _ _
/-- The form of a row. -/
theorem own64_take {w : World} {B : Nat} {a a' : Option Addr} {n c c' k : Nat} {zs : List Nat} (h : own64 w B (.slice a n c) zs) (hk : k ≤ zs.length) (h1 : 0 < k → a' = a ∧ c' = c) (h2 : k = 0 → a' = none ∧ c' = 0) :
    own64 w B (.slice a' k c') (zs.take k) := by
  rcases Nat.eq_zero_or_pos k with rfl | hp
  · obtain ⟨rfl, rfl⟩ := h2 rfl
    exact own64_nil w B
  · obtain ⟨rfl, rfl⟩ := h1 hp
    rcases h.2 with ⟨hv, h0⟩ | ⟨g, c1, cur, hv, hb, hg, hn, hm, hs, ht⟩
    · omega
    · cases hv
      refine ⟨by simp [u64s], .inr ⟨g, c', cur, by rw [List.length_take, Nat.min_eq_left hk], hb, hg, by rw [List.length_take]; omega, hm, hs, ?_⟩⟩
      rw [List.length_take, Nat.min_eq_left hk]
      have : (cur.toList.take (zs.length * 1)).take k = (u64s zs).take k := by rw [ht]
      rw [List.take_take, Nat.min_eq_left (by omega)] at this
      rw [Nat.mul_one, this]
      simp [u64s, List.map_take]
theorem parse_val {t : List UInt8} {p m : Nat} {zs ys : List Nat} {cy : Nat} (hm : p + m ≤ t.length) (h19 : m = 19) (hv : val zs = dval (t.take p)) (hl : ys.length = zs.length)
    (h : val ys + 18446744073709551616 ^ zs.length * cy = dval ((t.drop p).take m) + 10000000000000000000 * val zs) : val (ys ++ [cy]) = dval (t.take (p + m)) := by
  subst h19
  have e : t.take (p + 19) = t.take p ++ (t.drop p).take 19 := by rw [List.take_add]
  rw [val_snoc, hl, h, e, dval_append, List.length_take, List.length_drop, Nat.min_eq_left (by omega), hv]
  have : (10 : Nat) ^ 19 = 10000000000000000000 := by decide
  rw [this]; omega

set_option exponentiation.threshold 10000 in
set_option maxHeartbeats 2000000 in
set_option maxRecDepth 100000 in
theorem parse_main (s : ByteArray) (w : World) (hs : s.size ≤ 65536) (hd : decB s.data.toList = true) :
    Calls Tryd.prog 37 #[.string s] w (ParsePost s.data.toList w) := by
  have hlen := bytes_len s
  go_enter Tryd.func37, Tryd.ntmps37
  go_wp2_with fail
  refine (decimal_any s _ (by omega)).mono ?_
  rintro e w' ⟨rfl, hw⟩
  have hw2 := hw.symm
  subst hw2
  have hdg : ∀ c ∈ s.data.toList, isDig c = true := by
    have : s.data.toList.all isDig = true := by simp [decB] at hd; simpa using hd.1
    exact fun c hc => List.all_eq_true.1 this c hc
  have HDG := Lib.hid hdg
  clear hdg
  go_wp2_with fail
  refine (Tryd.strings_TrimLeft_one s 48 (by decide) _).mono ?_
  rintro e w' ⟨rfl, hw⟩
  have hw2 := hw.symm
  subst hw2
  have hl : (Lib.trimLeftB s.data.toList 48).length ≤ s.size := by rw [← hlen]; exact trim_len _
  have HV : Hid (dval (Lib.trimLeftB s.data.toList 48) = dval s.data.toList) := dval_trim _
  have HT : Hid (∀ c ∈ Lib.trimLeftB s.data.toList 48, isDig c = true) := fun c hc => HDG.out c (trim_sub _ c hc)
  have HG : Hid (∀ c t, Lib.trimLeftB s.data.toList 48 = c :: t → 10 ^ t.length ≤ dval s.data.toList) := fun c t h => dval_ge _ c t HDG.out h
  have HDB := Lib.hid hd
  clear hd
  generalize Lib.trimLeftB s.data.toList 48 = t at *
  by_cases ht : 2467 < t.length
  · have HR : Hid (18446744073709551616 ^ 128 ≤ dval s.data.toList) := by
      cases t with
      | nil => simp at ht
      | cons c t =>
        have h1 := HG.out c t rfl
        have h2 : 10 ^ 2467 ≤ 10 ^ t.length := Nat.pow_le_pow_right (by decide) (by simp at ht; omega)
        exact Nat.le_trans big_digits (Nat.le_trans h2 h1)
    go_wp2
    go_ret2
    exact ⟨Below.refl _ _, .inr (.inr (.inl ⟨by omega, HDB.out, HR.out, rfl⟩))⟩
  · clear HG
    go_wp2
    go_loopw [4, 0] (fun v sv wr => ∃ (p : Nat) (zs : List Nat), p ≤ t.length ∧ sv = .string ⟨(t.drop p).toArray⟩ ∧ Hid (own64 wr w.heap.size v zs) ∧ Hid (Bd zs) ∧ Hid (val zs = dval (t.take p)) ∧ zs.length ≤ p ∧ ((p = 0 ∧ v = .slice none 0 0 ∧ zs = []) ∨ (t.length - p) % 19 = 0 ∧ 0 < zs.length) ∧ Below w.heap.size w wr) (fun _ sv _ => strLen sv)
    case atStart => exact ⟨0, [], Nat.zero_le _, rfl, own64_nil _ _, Bd.nil, by show _ = _; simp [val, dval], Nat.zero_le _, .inl ⟨rfl, rfl, rfl⟩, Below.refl _ _⟩
    case round =>
      obtain ⟨p, zs, hp, rfl, HO, HB, HN, hzp, hor, hbl⟩ := hrel
      by_cases hlt : p < t.length
      · obtain ⟨m, hm⟩ : ∃ m, m = (t.length - p - 1) % 19 + 1 := ⟨_, rfl⟩
        have hm1 : p + m ≤ t.length := by omega
        have hm2 : m ≤ 19 := by omega
        have hm0 : 1 ≤ m := by omega
        have rm : (((t.length - p : Nat) : Int) - 1) % 19 + 1 = (m : Int) := by omega
        have HM := Lib.hid hm
        clear hm
        have HO2 := Lib.hid hor
        clear hor
        have hx1 := ext_front (t.drop p) m
        have HW : Hid (dval ((t.drop p).take m) < 18446744073709551616) := by
          have h1 := dval_lt ((t.drop p).take m) (fun c hc => HT.out c (List.mem_of_mem_drop (List.mem_of_mem_take hc)))
          have h2 : 10 ^ ((t.drop p).take m).length ≤ 10 ^ 19 := Nat.pow_le_pow_right (by decide) (by simp; omega)
          have h3 : (10 : Nat) ^ 19 = 10000000000000000000 := by decide
          show _ < _
          omega
        have hx2 := ext_back (t.drop p) m (t.length - p) (by simp)
        go_wp2_with fail
        refine (worth_any ⟨((t.drop p).take m).toArray⟩ _ (by simp [ByteArray.size]; omega) (fun c hc => HT.out c (List.mem_of_mem_drop (List.mem_of_mem_take (by simpa using hc))))).mono ?_
        rintro e w' ⟨rfl, rfl⟩
        have hsz := hbl.size
        rcases HO2.out with ⟨rfl, rfl, rfl⟩ | ⟨h19, hz0⟩
        · go_wp2_with fail
          refine (raisePart_empty _ _).mono ?_
          rintro e w' ⟨rfl, rfl⟩
          have hown := HO.out
          have hown2 : wr.ownsRow w.heap.size 55 1 (.slice none 0 0) 0 [] := hown
          clear hown
          go_wp2_with (at_builtin; refine wpl_app 22 55 Tryd.underlying22 info64 rfl (by decide) rfl _ _ rfl w.heap.size (.slice none 0 0) 0 [] rfl (hown2.alloc _) wr.heap.size _ rfl (World.cell?_alloc_at _ _ _ _ rfl) rfl (by omega) (by simp; omega) ?_)
          intro g cap' w1 hown1 hg1 hBg hgl hgo
          have HO1 := Lib.hid hown1
          have hbl1 : Below w.heap.size w w1 := (hbl.alloc (by omega) _).grown hg1 (by simp; omega) (fun k hk => by cases hk)
          clear hown1 hg1 hgo
          go_wp2
          go_roundw
          case rel =>
            refine ⟨m, [dval (t.take m)], by omega, ?_, HO1.out, ?_, ?_, by simpa using hm0, .inr ⟨by have := HM.out; omega, by simp⟩, hbl1⟩
            · rw [ext_back t m _ rfl]
            · have := HW.out
              rw [List.drop_zero] at this
              exact Bd.nil.cons this
            · show _ = _; simp [val]
          case measure =>
            rw [ext_back t m _ rfl, strLen_list, strLen_list]; simp; omega
        · have h19' : Hid (m = 19) := by have := HM.out; show _ = _; omega
          obtain ⟨g, cp, rfl, _, _⟩ := owns_some HO.out hz0
          obtain ⟨g', cur, hg', _, hBg, hblk, hnc, hcm, hcs, hsg⟩ := own64.blk HO.out
          cases hg'
          have HBK := Lib.hid hblk
          have HSG := Lib.hid hsg
          have HCS := Lib.hid hcs
          clear hblk hsg hcs
          go_wp2_with fail
          refine (raisePart_any g 0 zs.length cp cur zs _ _ HBK.out HSG.out rfl (by omega) HB.out HW.out).mono ?_
          rintro e w1 ⟨cy, ys, rfl, hyl, hyb, hcy, hval, hbk1, hC1⟩
          have hbl1 : Below w.heap.size w w1 := hbl.trans (hC1.below (by omega) (fun k hk => by omega))
          have hown2 : w1.ownsRow w.heap.size 55 1 (.slice (some ⟨g, 0, none⟩) zs.length cp) zs.length (u64s ys) := by
            have := own64_of_blk (B := w.heap.size) (zs := ys) (c := cp) hbk1 hBg (by omega) hcm (by rw [putL_size (by have := HSG.out.1; omega)]; exact HCS.out) (putL_sg (by have := HSG.out.1; omega))
            rw [hyl] at this
            unfold own64 at this
            rw [hyl] at this
            exact this
          have HV1 := Lib.hid (parse_val (t := t) (p := p) (m := m) (zs := zs) (ys := ys) (cy := cy) hm1 h19'.out HN.out hyl hval)
          have HY := Lib.hid hyb
          have hsz1 := hbl1.size
          have HYL := Lib.hid hyl
          clear hyb hval hbk1 hC1 hyl HO2
          go_wp2_with (at_builtin; refine wpl_app 22 55 Tryd.underlying22 info64 rfl (by decide) rfl _ _ rfl w.heap.size (.slice (some ⟨g, 0, none⟩) zs.length cp) zs.length (u64s ys) rfl (hown2.alloc _) w1.heap.size _ rfl (World.cell?_alloc_at _ _ _ _ rfl) rfl (by omega) (by simp; omega) ?_)
          intro g1 cap' w2 hown1 hg1 hBg1 hgl hgo
          have HO1 := Lib.hid hown1
          have hbl2 : Below w.heap.size w w2 := (hbl1.alloc (by omega) _).grown hg1 (by simp; omega) (fun k hk => by simp [Value.ownBlock] at hk; omega)
          clear hown1 hg1 hgo hown2
          go_wp2
          go_roundw
          case rel =>
            refine ⟨p + m, ys ++ [cy], by omega, ?_, ?_, HY.out.snoc hcy, HV1.out, by have := HYL.out; simp; omega, .inr ⟨by omega, by simp⟩, hbl2⟩
            · rfl
            · have := HO1.out
              show own64 _ _ _ _
              unfold own64
              rw [u64s_append, List.length_append, HYL.out]
              exact this
          case measure =>
            rw [strLen_list, strLen_list]; simp; omega
      · obtain rfl : p = t.length := by omega
        obtain ⟨a, c, rfl, hrd⟩ := own64.form HO.out
        have hcap : zs.length ≤ c := by
          rcases HO.out.2 with ⟨hv, h0⟩ | ⟨g, c1, cur, hv, hb, hg, hn, _⟩
          · omega
          · have h2 := hv
            simp only [Value.slice.injEq] at h2
            omega
        have HT' : Hid (val zs = dval s.data.toList) := by
          have := HN.out
          rw [List.take_length, HV.out] at this
          exact this
        clear hor
        go_wp2_with fail
        refine (one_any a zs.length c zs _ rfl (by omega) hcap hrd).mono ?_
        rintro e w1 ⟨hor, rfl⟩
        have hnum := num_fm HB.out
        rcases hor with ⟨h128, a', c', rfl, g1, g2⟩ | ⟨h128, rfl⟩
        · have G1 := Lib.hid g1
          have G2 := Lib.hid g2
          have HNM := Lib.hid hnum
          clear g1 g2 hnum
          go_wp2
          go_ret2
          refine ⟨hbl, .inr (.inr (.inr ⟨by omega, HDB.out, ?_, _, fm zs, rfl, ?_, ?_⟩))⟩
          · rw [← HT'.out, ← HNM.out.len_le, fm_length]; exact h128
          · have := own64_take HO.out (fl_spec zs).1 G1.out G2.out
            exact this
          · rw [← HT'.out]; exact HNM.out
        · have HNM := Lib.hid hnum
          clear hnum
          go_wp2
          go_ret2
          refine ⟨hbl, .inr (.inr (.inl ⟨by omega, HDB.out, ?_, rfl⟩))⟩
          rw [← HT'.out, ← HNM.out.len_lt, fm_length]; exact h128

theorem parse_any (s : ByteArray) (w : World) (hs : s.size ≤ 9223372036854775807) :
    Calls Tryd.prog 37 #[.string s] w (ParsePost s.data.toList w) := by
  have hlen := bytes_len s
  by_cases hbig : 65536 < s.size
  · go_enter Tryd.func37, Tryd.ntmps37
    go_wp2
    go_ret2
    exact ⟨Below.refl _ _, .inl ⟨by omega, rfl⟩⟩
  · by_cases hd : decB s.data.toList = true
    · exact parse_main s w (by omega) hd
    · have hd' : decB s.data.toList = false := by simpa using hd
      have HD := Lib.hid hd'
      clear hd
      go_enter Tryd.func37, Tryd.ntmps37
      go_wp2_with fail
      refine (decimal_any s _ hs).mono ?_
      rintro e w' ⟨rfl, hw⟩
      have hw2 := hw.symm
      subst hw2
      go_wp2
      go_ret2
      exact ⟨Below.refl _ _, .inr (.inl ⟨by omega, HD.out, rfl⟩)⟩
end Go.Proofs.YteanpdiceaijhaaDoor
