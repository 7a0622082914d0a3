import Derived.Test.YtkghgfiindpcjaaDeX
namespace Go.Proofs.Ytkghgfiindpcjaa
open Go.RowKit

/-! The reference: a key's bytes. -/
theorem own8_of {w : World} {B n : Nat} {v : Value} {xs : List Value} {l : List Nat} (h : w.ownsRow B 5 1 v n xs) (hn : n = l.length) (hx : xs = u8s l) : own8 w B v l := by
  subst hn hx; exact h
theorem u8s_append (a b : List Nat) : u8s (a ++ b) = u8s a ++ u8s b := by simp [u8s]
theorem mod_next (N k : Nat) : N / 256 ^ k % 256 * 256 ^ k + N % 256 ^ k = N % 256 ^ (k + 1) := by
  rw [Nat.mod_pow_succ, Nat.mul_comm, Nat.add_comm]
theorem wrap_u8N (n : Nat) : IntKind.u8.wrap (n : Int) = ((n % 256 : Nat) : Int) := by
  rw [show IntKind.u8.wrap (n : Int) = (n : Int) % 256 from by simp [IntKind.wrap, IntKind.signed, IntKind.bits]]
  omega
/-- The bytes of the low part of a number. -/
structure LowB (N k : Nat) (l : List Nat) : Prop where
  len : l.length = k
  b8 : B8 l
  vl : bval l = N % 256 ^ k
  more : k = 0 ∨ 0 < N / 256 ^ (k - 1)
theorem LowB.next {N k : Nat} {l : List Nat} (h : LowB N k l) (hn : 0 < N / 256 ^ k) : LowB N (k + 1) ((N / 256 ^ k % 256) :: l) := by
  refine ⟨by simp [h.len], fun x hx => ?_, ?_, .inr (by simpa using hn)⟩
  · rcases List.mem_cons.1 hx with rfl | hx
    · exact Nat.mod_lt _ (by decide)
    · exact h.b8 x hx
  · rw [bval_cons, h.len, h.vl, mod_next]
theorem LowB.fin {N k : Nat} {l : List Nat} (h : LowB N k l) (h0 : N / 256 ^ k = 0) : BNum l N := by
  have hlt : N < 256 ^ k := by
    rcases Nat.div_eq_zero_iff.1 h0 with h1 | h1
    · exact absurd h1 (Nat.pos_iff_ne_zero.1 (Nat.pow_pos (by decide)))
    · exact h1
  have hv : bval l = N := by rw [h.vl, Nat.mod_eq_of_lt hlt]
  refine ⟨h.b8, fun hp => ?_, hv⟩
  rcases h.more with hk | hk
  · rw [h.len] at hp; omega
  · intro hz
    rcases l with _ | ⟨x, t⟩
    · simp at hp
    · have hx : x = 0 := hz
      subst hx
      have h1 := bval_lt (b8_tail h.b8)
      have h2 : bval (0 :: t) = bval t := by rw [bval_cons]; omega
      have h3 : t.length = k - 1 := by have := h.len; simp at this; omega
      rw [h2] at hv
      rw [h3, hv] at h1
      rw [Nat.div_eq_of_lt h1] at hk
      omega

set_option maxHeartbeats 1600000 in
set_option maxRecDepth 100000 in
theorem rlength7_any (N : Nat) (w : World) (hN : N < 4294967296) :
    Calls Try.prog 76 #[.int .i64 (N : Nat)] w (New8 (LenB N) w) := by
  unfold New8
  by_cases h0 : N < 128
  · have hq : decide ((N : Int) < 128) = true := decide_eq_true (by omega)
    go_enter Try.func76, Try.ntmps76
    go_wp2
    go_ret
    exact ⟨(Below.refl _ _).alloc (Nat.le_refl _) _, _, _, rfl, own8_lit w N, .inl ⟨h0, rfl⟩⟩
  · have hq : decide ((N : Int) < 128) = false := decide_eq_false (by omega)
    have hge : 128 ≤ N := by omega
    clear h0
    go_enter Try.func76, Try.ntmps76
    go_wp2
    go_loopw [0, 3] (fun nv lv wr => ∃ (k n : Nat) (l : List Nat), nv = .int .i64 (n : Nat) ∧ n < 4294967296 ∧ Hid (n = N / 256 ^ k) ∧ Hid (LowB N k l) ∧ Hid (own8 wr w.heap.size lv l) ∧ Hid (Below w.heap.size w wr)) (fun nv _ _ => (intOf nv).toNat)
    case atStart => exact ⟨0, N, [], rfl, hN, by show _ = _; simp, ⟨rfl, (fun x hx => by cases hx), by simp [bval, Nat.mod_one], .inl rfl⟩, World.ownsRow_nil _ _ _ _, Below.refl _ _⟩
    case round =>
      obtain ⟨k, n, l, rfl, hn, HNK, HLB, HO, HB⟩ := hrel
      by_cases hpos : 0 < n
      · have hq1 : decide ((0 : Int) < (n : Int)) = true := decide_eq_true (by omega)
        obtain ⟨a1, c1, hv, hc1, hr1, hn1, -⟩ := own8_open HO.out
        subst hv
        have HR1 := Lib.hid hr1
        have HN1 := Lib.hid hn1
        obtain ⟨m, hm⟩ : ∃ m, m = l.length := ⟨_, rfl⟩
        have HM := Lib.hid hm
        obtain ⟨y, hy⟩ : ∃ y, y = n % 256 := ⟨_, rfl⟩
        have hwr := wrap_u8N n
        rw [← hy] at hwr
        have hmod : (n : Int) % 256 = (y : Int) := by omega
        have hk4 : m ≤ 16 := by
          rcases HLB.out.more with h | h
          · rw [hm, HLB.out.len]; omega
          · rw [hm, HLB.out.len]
            refine Nat.le_of_not_lt fun hk => ?_
            have h1 : (256 : Nat) ^ 4 ≤ 256 ^ (k - 1) := Nat.pow_le_pow_right (by decide) (by omega)
            have h2 : (256 : Nat) ^ 4 = 4294967296 := by decide
            rw [Nat.div_eq_of_lt (by omega)] at h
            omega
        have HNX : Hid (LowB N (k + 1) (y :: l)) := by
          have := HLB.out.next (by rw [← HNK.out]; exact hpos)
          rw [← HNK.out, ← hy] at this
          exact this
        have hsz := HB.out.size
        obtain ⟨n2, hn2⟩ : ∃ n2, n2 = n / 256 := ⟨_, rfl⟩
        have hdv : (n : Int) / 256 = (n2 : Int) := by omega
        have HN2 : Hid (n2 = N / 256 ^ (k + 1)) := by show _ = _; rw [hn2, HNK.out, Nat.div_div_eq_div_mul, Nat.pow_succ]
        have hlt2 : n2 < n := by omega
        rw [← hm] at hc1 ⊢
        clear hr1 hn1 hm hy hn2 HLB HNK
        go_wp2_with (first
          | (at_builtin; refine wpl_appN 22 5 Try.underlying22 info8 rfl (by decide) rfl _ _ rfl w.heap.size (.slice none 0 0) 0 [] rfl (World.ownsRow_nil _ _ _ _) (some ⟨wr.heap.size, 0, none⟩) 1 1 rfl (u8s [y]) rfl (fun _ => (rd_lit wr y).news (by simp)) (fun h => by cases h) (u8s_one8 _) (by decide) (by simp; omega) ?_; intro v5 w5 hown hg _ _; have HOv5 := Lib.hid hown; have HGv5 := Lib.hid hg; clear hown hg)
          | (at_builtin; refine wpl_appN 22 5 Try.underlying22 info8 rfl (by decide) rfl _ _ rfl w.heap.size v5 (0 + 1) ([] ++ u8s [y]) rfl HOv5.out a1 m c1 rfl (u8s l) (by rw [u8s_len, HM.out]) (fun h => ((HR1.out.below ((Below.refl wr.heap.size wr).alloc (Nat.le_refl _) _)).below ((Below.refl _ _).grown HGv5.out (Nat.le_refl _) (fun q hq => by cases hq))).news (by rw [← HM.out]; exact h)) (fun _ h => HN1.out h) (u8s_one8 _) (by omega) (by have := HGv5.out.size; simp at this; omega) ?_; intro v6 w6 hown hg _ _; have HOv6 := Lib.hid hown; have HGv6 := Lib.hid hg; clear hown hg))
        have hown2 : own8 w6 w.heap.size v6 (y :: l) := own8_of HOv6.out (by have := HM.out; simp; omega) (by simp [u8s])
        have hb2 : Below w.heap.size w w6 := ((HB.out.alloc hsz _).grown HGv5.out (by simp; omega) (fun q hq => by cases hq)).grown HGv6.out (by have := HGv5.out.size; simp at this; omega) (fun q hq => (World.ownsRow.lt HOv5.out q hq).1)
        have HOF := Lib.hid hown2
        have HBF := Lib.hid hb2
        clear hown2 hb2 HOv5 HGv5 HOv6 HGv6 HO HB
        go_roundw
        case rel => exact ⟨k + 1, n2, y :: l, rfl, by omega, HN2.out, HNX.out, HOF.out, HBF.out⟩
        case measure => simp [intOf]; omega
      · obtain rfl : n = 0 := by omega
        have HBN := Lib.hid (HLB.out.fin HNK.out.symm)
        obtain ⟨a1, c1, hv, hc1, hr1, hn1, -⟩ := own8_open HO.out
        subst hv
        have HR1 := Lib.hid hr1
        have HN1 := Lib.hid hn1
        have hm4 : l.length ≤ 4 := bnum_len HBN.out (by simpa using hN)
        obtain ⟨m, hm⟩ : ∃ m, m = l.length := ⟨_, rfl⟩
        have HM := Lib.hid hm
        have hsz := HB.out.size
        rw [← hm] at hm4 hc1 ⊢
        clear hr1 hn1 hm HLB HNK
        go_wp2_with (first
          | (at_builtin; refine wpl_appN 22 5 Try.underlying22 info8 rfl (by decide) rfl _ _ rfl w.heap.size (.slice none 0 0) 0 [] rfl (World.ownsRow_nil _ _ _ _) (some ⟨wr.heap.size, 0, none⟩) 1 1 rfl (u8s [128 + m]) rfl (fun _ => (rd_lit wr (128 + m)).news (by simp)) (fun h => by cases h) (u8s_one8 _) (by decide) (by simp; omega) ?_; intro v5 w5 hown hg _ _; have HOv5 := Lib.hid hown; have HGv5 := Lib.hid hg; clear hown hg)
          | (at_builtin; refine wpl_appN 22 5 Try.underlying22 info8 rfl (by decide) rfl _ _ rfl w.heap.size v5 (0 + 1) ([] ++ u8s [128 + m]) rfl HOv5.out a1 m c1 rfl (u8s l) (by rw [u8s_len, HM.out]) (fun h => ((HR1.out.below ((Below.refl wr.heap.size wr).alloc (Nat.le_refl _) _)).below ((Below.refl _ _).grown HGv5.out (Nat.le_refl _) (fun q hq => by cases hq))).news (by rw [← HM.out]; exact h)) (fun _ h => HN1.out h) (u8s_one8 _) (by omega) (by have := HGv5.out.size; simp at this; omega) ?_; intro v6 w6 hown hg _ _; have HOv6 := Lib.hid hown; have HGv6 := Lib.hid hg; clear hown hg))
        have hown2 : own8 w6 w.heap.size v6 ((128 + m) :: l) := own8_of HOv6.out (by have := HM.out; simp; omega) (by simp [u8s])
        have hb2 : Below w.heap.size w w6 := ((HB.out.alloc hsz _).grown HGv5.out (by simp; omega) (fun q hq => by cases hq)).grown HGv6.out (by have := HGv5.out.size; simp at this; omega) (fun q hq => (World.ownsRow.lt HOv5.out q hq).1)
        have HOF := Lib.hid hown2
        have HBF := Lib.hid hb2
        clear hown2 hb2 HOv5 HGv5 HOv6 HGv6 HO HB
        go_wp2
        go_ret
        exact ⟨HBF.out, _, _, rfl, HOF.out, .inr ⟨hge, l, HBN.out, by rw [← HM.out]; exact hm4, by rw [HM.out]⟩⟩
end Go.Proofs.Ytkghgfiindpcjaa
