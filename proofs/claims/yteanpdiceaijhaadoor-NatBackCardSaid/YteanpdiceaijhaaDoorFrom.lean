import Derived.Test.YteanpdiceaijhaaDoorFromN
import Derived.StillTailTactics
import Derived.Deep.DeepCutAuto
import Derived.Deep.CutBlock
namespace Go.Proofs.YteanpdiceaijhaaDoor
open Go.RowKit

/-- A new list of noughts. -/
theorem wpl_make64 {w : World} {ops : Array Oper} {rest : List Oper} {o : Oper} {a : Act} {Q : Exit → Act → World → Prop} (hg : o.guard = none) (l c : Operand) (hop : o.op = Op.makeSlice 22 l c)
    (B : Nat) (kl kc : IntKind) (L C : Int) (n : Nat) (hl : a.eval l = .int kl L) (hc : a.eval c = .int kc C) (hL : L = (n : Int)) (hC : C = (n : Int)) (hn : n ≤ 4398046511104) (hB : B ≤ w.heap.size)
    (hK : ∀ w', own64 w' B (.slice (some ⟨w.heap.size, 0, none⟩) n n) (List.replicate n 0) → Below B w w' → w.heap.size < w'.heap.size → wpList Tryd.prog ops Q rest (a.put o.dst (.slice (some ⟨w.heap.size, 0, none⟩) n n)) w') :
    wpList Tryd.prog ops Q (o :: rest) a w := by
  obtain ⟨i, hi, hz, hsz, hb⟩ := info_parts info64
  refine wpList_make_full w hg l c 22 hop B 55 i (.int .u64 0) 1 Tryd.underlying22 hi hz hsz kl kc L C n hl hc hL hC (by rw [hb]; omega) (by simp only [maxLen]; omega) hB ?_
  intro w' hown hgr
  refine hK w' ?_ ((Below.refl _ _).grown hgr hB (fun k hk => by cases hk)) ((hown.lt _ rfl).2)
  unfold own64
  rw [List.length_replicate]
  have e : (madeCells (Value.int .u64 0).cells (n * 1)).toList = u64s (List.replicate n 0) := by
    rw [Nat.mul_one, show (Value.int .u64 0).cells = #[.int .u64 0] from rfl, toList_madeCells_one, u64s, List.map_replicate]
    rfl
  rw [e] at hown
  exact hown

def lenOf : Value → Nat | .slice _ n _ => n | _ => 0
/-- Bytes' number. -/
def FromPost (l : List Nat) (w : World) (e : Ending) (w' : World) : Prop :=
  Below w.heap.size w w' ∧
  ((18446744073709551616 ^ 128 ≤ bval l ∧ e = .returned (.tuple #[.slice none 0 0, .int .i64 3])) ∨
   (bval l < 18446744073709551616 ^ 128 ∧ ∃ v zs, e = .returned (.tuple #[v, .int .i64 0]) ∧ own64 w' w.heap.size v zs ∧ Num zs (bval l)))

/-- A slice without its first element. -/
theorem Rd.tail {k : IntKind} {w : World} {b off : Nat} {xs : List Nat} (h : Rd k w (some ⟨b, off, none⟩) xs) : Rd k w (some ⟨b, off + 1, none⟩) (xs.drop 1) := by
  intro j hj
  simp at hj
  refine ⟨b, off + 1, rfl, fun i hi => ?_⟩
  simp at hi
  have := h.cell (i := i + 1) (by omega)
  have e := at0_drop (xs := xs) (i := i) (n := 1)
  unfold at0 at e this
  rw [e, show off + 1 + i = off + (i + 1) by omega, Nat.add_comm 1 i]
  exact this

theorem bval_zeros {l : List Nat} {j : Nat} (hj : j ≤ l.length) (hz : ∀ i, i < j → at0 l i = 0) : bval (l.drop j) = bval l := by
  induction j with
  | zero => rfl
  | succ j ih =>
    rw [← ih (by omega) (fun i hi => hz i (by omega)), List.drop_eq_getElem_cons (i := j) (by omega), bval_cons, ← at0_getElem (by omega), hz j (by omega), Nat.zero_mul, Nat.zero_add]
theorem bval_ge {l : List Nat} (h0 : at0 l 0 ≠ 0) : 256 ^ (l.length - 1) ≤ bval l := by
  cases l with
  | nil => simp [at0] at h0
  | cons c l =>
    rw [at0_cons_zero] at h0
    rw [bval_cons, List.length_cons, Nat.add_sub_cancel]
    have h2 : 1 * 256 ^ l.length ≤ c * 256 ^ l.length := Nat.mul_le_mul_right _ (by omega)
    omega
theorem pow_1024 : (256 : Nat) ^ 1024 = 18446744073709551616 ^ 128 := by decide +kernel
theorem Bd.set {ws : List Nat} {k x : Nat} (h : Bd ws) (hx : x < 18446744073709551616) : Bd (ws.set k x) := fun y hy => by
  rcases List.mem_or_eq_of_mem_set hy with hy | rfl
  · exact h y hy
  · exact hx
theorem or_nat (a b : Nat) (ha : a < 18446744073709551616) (hb : b < 18446744073709551616) : bits BinOp.or IntKind.u64 (a : Int) (b : Int) = ((a ||| b : Nat) : Int) := by
  have h1 : (BitVec.ofInt 64 (a : Int)).toNat = a := by
    rw [BitVec.ofInt_natCast, BitVec.toNat_ofNat]; exact Nat.mod_eq_of_lt (by omega)
  have h2 : (BitVec.ofInt 64 (b : Int)).toNat = b := by
    rw [BitVec.ofInt_natCast, BitVec.toNat_ofNat]; exact Nat.mod_eq_of_lt (by omega)
  have hx : a ||| b < 2 ^ 64 := Nat.or_lt_two_pow (by omega) (by omega)
  show IntKind.u64.wrap ((BitVec.ofInt 64 (a : Int) ||| BitVec.ofInt 64 (b : Int)).toNat : Int) = _
  rw [BitVec.toNat_or, h1, h2, IntKind.wrap_u64]
  omega

/-- What stands behind the bytes 0 ahead. -/
def Tail (l : List Nat) (w : World) (v : Value) : Prop := ∃ (j c' : Nat) (a' : Option Addr), j ≤ l.length ∧ v = .slice a' (l.length - j) c' ∧ l.length - j ≤ c' ∧ Rd .u8 w a' (l.drop j) ∧ bval (l.drop j) = bval l ∧ (at0 (l.drop j) 0 ≠ 0 ∨ l.drop j = [])

set_option exponentiation.threshold 10000 in
set_option maxHeartbeats 2000000 in
set_option maxRecDepth 100000 in
theorem from_any (a : Option Addr) (len cap : Nat) (l : List Nat) (w : World) (hl : l.length = len) (hbig : len ≤ 1099511627776) (hcap : len ≤ cap) (h8 : B8 l) (hr : Rd .u8 w a l) :
    Calls Tryd.prog 38 #[.slice a len cap] w (FromPost l w) := by
  go_enter Tryd.func38, Tryd.ntmps38
  go_upto_block 0 with (fail)
  go_cut [0] (fun v wx => Hid (Tail l w v) ∧ w = wx)
  case first =>
    go_wp2
    go_loop [0] (fun v => ∃ (j c' : Nat) (a' : Option Addr), j ≤ len ∧ v = .slice a' (len - j) c' ∧ len - j ≤ c' ∧ Hid (Rd .u8 w a' (l.drop j)) ∧ Hid (∀ i, i < j → at0 l i = 0)) (fun v => lenOf v)
    case atStart => exact ⟨0, cap, a, Nat.zero_le _, rfl, hcap, hr, fun i hi => by omega⟩
    case round =>
      clear hr
      obtain ⟨j, c', a', hj, rfl, hc', HR, hz⟩ := hrel
      by_cases hlt : j < len
      · obtain ⟨b, off, rfl⟩ := HR.out.isAt (by simp; omega)
        have hc1 := HR.out.cell (i := 0) (by simp; omega)
        have hA : Hid (at0 (l.drop j) 0 = at0 l j) := by show _ = _; rw [at0_drop, Nat.add_zero]
        rw [Nat.add_zero] at hc1
        obtain ⟨x, hx0⟩ : ∃ x, at0 (l.drop j) 0 = x := ⟨_, rfl⟩
        rw [hx0] at hc1 hA
        have HX := Lib.hid hx0
        clear hx0
        obtain ⟨m, hm⟩ : ∃ m, len - j = m + 1 := ⟨len - j - 1, by omega⟩
        have HM := Lib.hid hm
        rw [hm]
        clear hm
        by_cases hx : x = 0
        · subst hx
          obtain ⟨d, rfl⟩ : ∃ d, c' = d + 1 := ⟨c' - 1, by omega⟩
          have hdrop : (l.drop j).drop 1 = l.drop (j + 1) := by rw [List.drop_drop]
          have HH : Hid (Rd .u8 w (some ⟨b, off + 1, none⟩) (l.drop (j + 1))) := by rw [← hdrop]; exact HR.out.tail
          have HZ : Hid (∀ i, i < j + 1 → at0 l i = 0) := fun i hi => by
            rcases Nat.lt_succ_iff_lt_or_eq.1 hi with h | rfl
            · exact hz.out i h
            · exact hA.out.symm
          clear hdrop
          by_cases hd : d = 0
          · subst hd
            have hm0 : m = 0 := by have := HM.out; omega
            subst hm0
            go_wp2
            go_round
            case rel =>
              have := HM.out
              refine ⟨j + 1, 0, some ⟨b, off, none⟩, by omega, by rw [show len - (j + 1) = 0 by omega], by omega, ?_, HZ⟩
              rw [List.drop_of_length_le (by omega)]; exact Rd.nil _ _ _
            case measure => simp [lenOf]
          · go_wp2
            go_round
            case rel =>
              have := HM.out
              exact ⟨j + 1, d, some ⟨b, off + 1, none⟩, by omega, by rw [show len - (j + 1) = m by omega], by omega, HH, HZ⟩
            case measure => simp [lenOf]
        · have hq : ((x : Int) == 0) = false := by simp; omega
          have HX0 := Lib.hid hx
          clear hx
          go_wp2
          go_meet
          refine ⟨⟨j, c', _, by omega, by rw [hl, HM.out], by omega, HR.out, bval_zeros (by omega) hz.out, .inl (by rw [HX.out]; exact HX0.out)⟩, rfl⟩
      · obtain rfl : j = len := by omega
        have h0 : j - j = 0 := Nat.sub_self j
        rw [h0]
        go_wp2
        go_meet
        refine ⟨⟨j, c', a', by omega, by rw [hl, h0], by omega, HR.out, bval_zeros (by omega) hz.out, .inr (List.drop_of_length_le (by omega))⟩, rfl⟩
  case rest =>
    obtain ⟨HT, rfl⟩ := hcut
    obtain ⟨j, c', a', hj, rfl, hc', hr', hbv, hhead⟩ := HT.out
    have h8' : B8 (l.drop j) := h8.drop j
    obtain ⟨t, ht⟩ : ∃ t, l.drop j = t := ⟨_, rfl⟩
    have hlen : l.length - j = t.length := by rw [← ht, List.length_drop]
    rw [ht] at hr' hbv hhead h8'
    have htl : t.length ≤ len := by omega
    rw [hlen] at hc' ⊢
    have HBV := Lib.hid hbv
    clear HT hlen ht hr hj hbv hl h8 hcap
    by_cases hbig2 : 1024 < t.length
    · have HR : Hid (18446744073709551616 ^ 128 ≤ bval l) := by
        rcases hhead with h | h
        · have h1 := bval_ge h
          have h2 : 256 ^ 1024 ≤ 256 ^ (t.length - 1) := Nat.pow_le_pow_right (by decide) (by omega)
          rw [pow_1024] at h2
          rw [← HBV.out]
          exact Nat.le_trans h2 h1
        · rw [h] at hbig2; simp at hbig2
      clear hhead
      go_wp2
      go_ret2
      exact ⟨Below.refl _ _, .inl ⟨HR.out, rfl⟩⟩
    · have HHD := Lib.hid hhead
      clear hhead
      obtain ⟨n, hn⟩ : ∃ n, n = (t.length + 7) / 8 := ⟨_, rfl⟩
      have rn : ((t.length : Int) + 7) / 8 = (n : Int) := by omega
      have HN := Lib.hid hn
      have hn2 : n ≤ 200 := by omega
      clear hn
      go_wp2_with (at_make; refine wpl_make64 rfl _ _ rfl w.heap.size _ _ _ _ n rfl rfl rn rn (by omega) (Nat.le_refl _) ?_)
      intro w1 hown hbl hsz
      have HO := Lib.hid hown
      clear hown
      go_wp2
      go_loopw [29] (fun iv wr => ∃ (i : Nat) (ws : List Nat), i ≤ t.length ∧ iv = .int .i64 i ∧ Hid (own64 wr w.heap.size (.slice (some ⟨w.heap.size, 0, none⟩) n n) ws) ∧ Hid (Bd ws) ∧ Hid (val ws = bval (t.take i) * 256 ^ (t.length - i)) ∧ Below w.heap.size w wr) (fun iv _ => t.length - (intOf iv).toNat)
      case atStart => exact ⟨0, _, Nat.zero_le _, rfl, HO, fun x hx => by rw [List.eq_of_mem_replicate hx]; decide, by show _ = _; rw [val_replicate]; simp [bval], hbl⟩
      case round =>
        clear HO hbl
        obtain ⟨i, ws, hi, rfl, HO, HB, HV, hbl⟩ := hrel
        have HL : Hid (n = ws.length) := (own64.rd HO.out).1
        by_cases hlt : i < t.length
        · obtain ⟨b, off, rfl⟩ := hr'.isAt (by omega)
          have hc1 := below_cell hbl _ _ (hr'.cell (i := i) (by omega))
          obtain ⟨p, hp⟩ : ∃ p, p = t.length - 1 - i := ⟨_, rfl⟩
          have rp : (t.length : Int) - 1 - (i : Int) = (p : Int) := by omega
          have hpn : p / 8 < n := by have := HN.out; omega
          have hx8 := h8'.at0 i
          have HP : Hid (p + 1 = t.length - i) := by show _ = _; omega
          obtain ⟨st1, st2, st3, st4⟩ := byte_step (x := at0 t i) (N := bval (t.take i)) (p := p) HB.out (by rw [← HL.out]; exact hpn) (by rw [HV.out, HP.out]) hx8
          have HT : Hid (t.take (i + 1) = t.take i ++ [at0 t i]) := take_succ_at0 hlt
          have hc2 := own64.cell HO.out (j := p / 8) (by rw [← HL.out]; exact hpn)
          have hf2 := own64.free HO.out (p / 8)
          have HOS := fun (y : Nat) => own64.set HO.out (p / 8) y
          have hLb := HB.out.at0 (p / 8)
          generalize at0 t i = x at *
          generalize at0 ws (p / 8) = L at *
          obtain ⟨q, hq⟩ : ∃ q, q = p / 8 := ⟨_, rfl⟩
          obtain ⟨sh, hsh⟩ : ∃ sh, sh = 8 * (p % 8) := ⟨_, rfl⟩
          rw [← hsh] at st1 st2 st3 st4
          rw [← hq] at st4 hc2 hf2 HOS hpn
          obtain ⟨y, hy⟩ : ∃ y, y = x * 2 ^ sh := ⟨_, rfl⟩
          rw [← hy] at st1 st2 st3 st4
          have rq : (p : Int) / 8 = (q : Int) := by omega
          have rs : (p : Int) % 8 * 8 = (sh : Int) := by omega
          have hs63 : sh ≤ 56 := by omega
          have ro : bits BinOp.or IntKind.u64 (L : Int) (y : Int) = ((L + y : Nat) : Int) := by rw [← st1]; exact or_nat L y hLb st3
          have ry : IntKind.u64.wrap ((x : Int) * 2 ^ sh) = (y : Int) := by
            rw [show (x : Int) * 2 ^ sh = ((x * 2 ^ sh : Nat) : Int) by simp, ← hy, IntKind.wrap_u64]; omega
          have H4 := Lib.hid st4
          have HHS := Lib.hid HOS
          clear st1 st3 st4 HOS hq hsh hy hp
          go_wp2
          have rw1 : IntKind.i64.wrap (q : Int) = (q : Int) := IntWalk.i64_in _ (by omega)
          have hq0 : (0 : Int) ≤ (q : Int) := by omega
          have rwx : IntKind.u64.wrap (x : Int) = (x : Int) := IntWalk.u64_in _ (by omega)
          obtain ⟨r8, hr8⟩ : ∃ r8, r8 = p % 8 := ⟨_, rfl⟩
          have rt : (p : Int).tmod 8 = (r8 : Int) := by rw [Int.tmod_eq_emod_of_nonneg (by omega)]; omega
          have rm : IntKind.i64.wrap ((r8 : Int) * 8) = (sh : Int) := by rw [IntWalk.i64_in _ (by omega)]; omega
          have hs0 : (0 : Int) ≤ (sh : Int) := by omega
          clear hr8
          have hqn : (q : Int) < (n : Int) := by omega
          refine wp_region_still_tail 13 (by kernel_rfl) (by kernel_rfl) ?_
          simp only [List.take_succ_cons, List.take_zero, List.drop_succ_cons, List.drop_zero]
          iterate 13 still_step
          refine wpStill_nil ?_
          go_wp2
          go_roundw
          case rel =>
            refine ⟨i + 1, ws.set q (L + y), by omega, by go_num, ?_, HB.out.set st2, ?_, (hbl.setCell (p := ⟨w.heap.size, q, none⟩) (Nat.le_refl _) _).drew⟩
            · exact HHS.out (L + y)
            · show _ = _
              rw [H4.out, HT.out, bval_snoc, show t.length - (i + 1) = p by have := HP.out; omega]
          case measure => simp [intOf]; omega
        · obtain rfl : i = t.length := by omega
          have hval : val ws = bval l := by
            have := HV.out
            rw [List.take_length, Nat.sub_self, Nat.pow_zero, Nat.mul_one, HBV.out] at this
            exact this
          have hcn : Cn ws := by
            refine bytes_cn HB.out (by rw [← HL.out]; exact HN.out) (by rw [hval]; exact HBV.out.symm) HHD.out
          have HNU : Hid (Num ws (bval l)) := ⟨HB.out, hcn, hval⟩
          clear hval hcn
          go_wp2
          go_ret2
          refine ⟨hbl, .inr ⟨?_, _, ws, rfl, HO.out, HNU.out⟩⟩
          have h1 := bval_lt h8'
          have h2 : 256 ^ t.length ≤ 256 ^ 1024 := Nat.pow_le_pow_right (by decide) (by omega)
          rw [pow_1024] at h2
          rw [HBV.out] at h1
          omega
end Go.Proofs.YteanpdiceaijhaaDoor
