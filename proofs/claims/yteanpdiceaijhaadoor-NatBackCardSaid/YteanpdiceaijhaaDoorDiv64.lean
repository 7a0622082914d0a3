import Derived.Test.YteanpdiceaijhaaDoorDivN
import Derived.Deep.DeepCutAuto
import Derived.Deep.CutBlock
namespace Go.Proofs.YteanpdiceaijhaaDoor
open Go.RowKit

theorem and_low (a : Nat) (h : a < 18446744073709551616) : bits BinOp.and IntKind.u64 (a : Int) 4294967295 = ((a % 4294967296 : Nat) : Int) := by
  have h1 : (BitVec.ofInt 64 (a : Int)).toNat = a := by
    rw [BitVec.ofInt_natCast, BitVec.toNat_ofNat]; exact Nat.mod_eq_of_lt (by omega)
  show IntKind.u64.wrap ((BitVec.ofInt 64 (a : Int) &&& BitVec.ofInt 64 4294967295).toNat : Int) = _
  rw [BitVec.toNat_and, h1, show (BitVec.ofInt 64 4294967295).toNat = 2 ^ 32 - 1 by decide, Nat.and_two_pow_sub_one_eq_mod, IntKind.wrap_u64]
  omega
theorem or_shift (hi lo s : Nat) (hs : s ≤ 63) (hlo : lo < 18446744073709551616) (hb : hi * 2 ^ s < 18446744073709551616) :
    bits BinOp.or IntKind.u64 (IntKind.u64.wrap ((hi : Int) * 2 ^ s)) ((lo : Int) / 2 ^ (64 - s)) = ((hi * 2 ^ s + lo / 2 ^ (64 - s) : Nat) : Int) := by
  have hl : lo / 2 ^ (64 - s) < 2 ^ s := by
    rw [Nat.div_lt_iff_lt_mul (Nat.two_pow_pos _), ← Nat.pow_add, show s + (64 - s) = 64 by omega]; simpa using hlo
  have hs2 : 2 ^ s ≤ 2 ^ 63 := Nat.pow_le_pow_right (by decide) hs
  have e1 : IntKind.u64.wrap ((hi : Int) * 2 ^ s) = ((hi * 2 ^ s : Nat) : Int) := by
    rw [IntKind.wrap_u64, show (hi : Int) * 2 ^ s = ((hi * 2 ^ s : Nat) : Int) by simp]; omega
  have e2 : (lo : Int) / 2 ^ (64 - s) = ((lo / 2 ^ (64 - s) : Nat) : Int) := by simp
  rw [e1, e2]
  have h1 : (BitVec.ofInt 64 ((hi * 2 ^ s : Nat) : Int)).toNat = hi * 2 ^ s := by
    rw [BitVec.ofInt_natCast, BitVec.toNat_ofNat]; exact Nat.mod_eq_of_lt (by omega)
  have h2 : (BitVec.ofInt 64 ((lo / 2 ^ (64 - s) : Nat) : Int)).toNat = lo / 2 ^ (64 - s) := by
    rw [BitVec.ofInt_natCast, BitVec.toNat_ofNat]; exact Nat.mod_eq_of_lt (by omega)
  show IntKind.u64.wrap ((BitVec.ofInt 64 ((hi * 2 ^ s : Nat) : Int) ||| BitVec.ofInt 64 ((lo / 2 ^ (64 - s) : Nat) : Int)).toNat : Int) = _
  rw [BitVec.toNat_or, h1, h2, Nat.mul_comm hi, ← Nat.two_pow_add_eq_or_of_lt hl, IntKind.wrap_u64, Nat.mul_comm]
  have hb2 : hi * 2 ^ s + lo / 2 ^ (64 - s) < 18446744073709551616 := by
    have h3 : hi * 2 ^ s ≤ 18446744073709551616 - 2 ^ s := by
      have e3 : (18446744073709551616 : Nat) = 2 ^ (64 - s) * 2 ^ s := by rw [← Nat.pow_add, show 64 - s + s = 64 by omega]
      have h4 : hi < 2 ^ (64 - s) := by
        refine Nat.lt_of_mul_lt_mul_right (a := 2 ^ s) ?_
        rw [← e3]; exact hb
      have h5 : (hi + 1) * 2 ^ s ≤ 2 ^ (64 - s) * 2 ^ s := Nat.mul_le_mul_right _ h4
      rw [← e3, Nat.add_mul] at h5
      omega
    omega
  omega

theorem ret_pair {k k' : IntKind} {a b c d : Int} (h : a = b) (h' : c = d) : Ending.returned (.tuple #[.int k a, .int k' c]) = .returned (.tuple #[.int k b, .int k' d]) := by rw [h, h']

/-- The two digits are the quotient. -/
theorem div_fin {hi lo y s Y U L u1 u0 Q V Q2 W : Nat} (h0 : 0 < y) (hs : s ≤ 63) (_hlo : lo < 18446744073709551616) (hY : Y = y * 2 ^ s) (hU : U = hi * 2 ^ s + lo / 2 ^ (64 - s)) (hL : L = lo * 2 ^ s % 18446744073709551616) (hL2 : L = u1 * 4294967296 + u0)
    (hQ : Q = (U * 4294967296 + u1) / Y) (hV : V = (U * 4294967296 + u1) % Y) (hQ2 : Q2 = (V * 4294967296 + u0) / Y) (hW : W = (V * 4294967296 + u0) % Y) :
    (hi * 18446744073709551616 + lo) / y = Q * 4294967296 + Q2 ∧ (hi * 18446744073709551616 + lo) % y = W / 2 ^ s := by
  have hYp : 0 < Y := by rw [hY]; exact Nat.mul_pos h0 (Nat.two_pow_pos s)
  have e0 : lo * 2 ^ s = lo / 2 ^ (64 - s) * 18446744073709551616 + L := by
    have e1 : (18446744073709551616 : Nat) = 2 ^ (64 - s) * 2 ^ s := by rw [← Nat.pow_add, show 64 - s + s = 64 by omega]
    have e2 : lo * 2 ^ s / 18446744073709551616 = lo / 2 ^ (64 - s) := by rw [e1, Nat.mul_div_mul_right _ _ (Nat.two_pow_pos s)]
    have := Nat.div_add_mod (lo * 2 ^ s) 18446744073709551616
    rw [e2, ← hL] at this
    omega
  have d1 := Nat.div_add_mod (U * 4294967296 + u1) Y
  rw [← hQ, ← hV] at d1
  have d2 := Nat.div_add_mod (V * 4294967296 + u0) Y
  rw [← hQ2, ← hW] at d2
  have hWY : W < Y := by rw [hW]; exact Nat.mod_lt _ hYp
  have key : (hi * 18446744073709551616 + lo) * 2 ^ s = (Q * 4294967296 + Q2) * (y * 2 ^ s) + W := by
    rw [← hY, Nat.add_mul, Nat.add_mul, e0]
    have a1 : hi * 18446744073709551616 * 2 ^ s = hi * 2 ^ s * 18446744073709551616 := by rw [Nat.mul_right_comm]
    have a2 : Q * 4294967296 * Y = Y * Q * 4294967296 := by rw [Nat.mul_right_comm, Nat.mul_comm Q Y]
    have a3 : Q2 * Y = Y * Q2 := Nat.mul_comm _ _
    rw [a1, a2, a3]
    generalize hi * 2 ^ s = A at *
    generalize lo / 2 ^ (64 - s) = B at *
    generalize Y * Q = C at *
    generalize Y * Q2 = D at *
    omega
  have p2 := Nat.two_pow_pos s
  have hle : (Q * 4294967296 + Q2) * y ≤ hi * 18446744073709551616 + lo := by
    refine Nat.le_of_mul_le_mul_right (c := 2 ^ s) ?_ p2
    rw [key, Nat.mul_assoc]; omega
  obtain ⟨d, hd⟩ : ∃ d, hi * 18446744073709551616 + lo = (Q * 4294967296 + Q2) * y + d := ⟨_, (Nat.add_sub_cancel' hle).symm⟩
  have hWd : W = d * 2 ^ s := by
    rw [hd, Nat.add_mul, Nat.mul_assoc] at key
    omega
  have hdy : d < y := by
    refine Nat.lt_of_mul_lt_mul_right (a := 2 ^ s) ?_
    rw [← hWd, ← hY]; exact hWY
  rw [hd, hWd, Nat.mul_div_cancel _ p2]
  constructor
  · rw [Nat.mul_comm, Nat.mul_add_div h0, Nat.div_eq_of_lt hdy, Nat.add_zero]
  · rw [Nat.mul_comm, Nat.mul_add_mod, Nat.mod_eq_of_lt hdy]

set_option maxHeartbeats 1000000 in
set_option maxRecDepth 100000 in
theorem div64_big (hi lo y : Nat) (hy : y < 18446744073709551616) (hlo : lo < 18446744073709551616) (hlt : hi < y) (h0 : 0 < hi) (w : World) :
    Calls Tryd.prog 92 #[.int .u64 hi, .int .u64 lo, .int .u64 y] w fun e w' => e = .returned (.tuple #[.int .u64 (((hi * 18446744073709551616 + lo) / y : Nat) : Int), .int .u64 (((hi * 18446744073709551616 + lo) % y : Nat) : Int)]) ∧ w' = w := by
  have q0 : ((y : Int) == 0) = false := by simp; omega
  have q1 : decide (y ≤ hi) = false := by simp; omega
  have q2 : ((hi : Int) == 0) = false := by simp; omega
  go_enter Tryd.func92, Tryd.ntmps92
  go_wp2_with fail
  refine (lz64_any y (by omega) hy _).mono ?_
  rintro e w' ⟨s, rfl, hs, HY, rfl⟩
  clear q0 q1 q2
  obtain ⟨Y, hYd⟩ : ∃ Y, Y = y * 2 ^ s := ⟨_, rfl⟩
  obtain ⟨U, hUd⟩ : ∃ U, U = hi * 2 ^ s + lo / 2 ^ (64 - s) := ⟨_, rfl⟩
  obtain ⟨L, hLd⟩ : ∃ L, L = lo * 2 ^ s % 18446744073709551616 := ⟨_, rfl⟩
  have hhi : hi * 2 ^ s < y * 2 ^ s := Nat.mul_lt_mul_of_pos_right hlt (Nat.two_pow_pos s)
  have rY : IntKind.u64.wrap ((y : Int) * 2 ^ s) = (Y : Int) := by
    have := HY.out.2
    rw [hYd, IntKind.wrap_u64, show (y : Int) * 2 ^ s = ((y * 2 ^ s : Nat) : Int) by simp]
    omega
  have rL : IntKind.u64.wrap ((lo : Int) * 2 ^ s) = (L : Int) := by
    rw [hLd, IntKind.wrap_u64, show (lo : Int) * 2 ^ s = ((lo * 2 ^ s : Nat) : Int) by simp]
    omega
  have rU : bits BinOp.or IntKind.u64 (IntKind.u64.wrap ((hi : Int) * 2 ^ s)) ((lo : Int) / 2 ^ (64 - s)) = (U : Int) := by
    rw [hUd]; exact or_shift hi lo s hs hlo (Nat.lt_trans hhi HY.out.2)
  have hYb : 9223372036854775808 ≤ Y ∧ Y < 18446744073709551616 := by rw [hYd]; exact HY.out
  have hLb : L < 18446744073709551616 := by omega
  obtain ⟨y1, hy1⟩ : ∃ y1, y1 = Y / 4294967296 := ⟨_, rfl⟩
  obtain ⟨y0, hy0⟩ : ∃ y0, y0 = Y % 4294967296 := ⟨_, rfl⟩
  obtain ⟨u1, hu1⟩ : ∃ u1, u1 = L / 4294967296 := ⟨_, rfl⟩
  obtain ⟨u0, hu0⟩ : ∃ u0, u0 = L % 4294967296 := ⟨_, rfl⟩
  have ry1 : (Y : Int) / 4294967296 = (y1 : Int) := by omega
  have ry0 : bits BinOp.and IntKind.u64 (Y : Int) 4294967295 = (y0 : Int) := by rw [hy0]; exact and_low Y hYb.2
  have ru1 : (L : Int) / 4294967296 = (u1 : Int) := by omega
  have ru0 : bits BinOp.and IntKind.u64 (L : Int) 4294967295 = (u0 : Int) := by rw [hu0]; exact and_low L hLb
  have hUY : U < Y := by
    have hl : lo / 2 ^ (64 - s) < 2 ^ s := by
      rw [Nat.div_lt_iff_lt_mul (Nat.two_pow_pos _), ← Nat.pow_add, show s + (64 - s) = 64 by omega]; simpa using hlo
    have h5 : (hi + 1) * 2 ^ s ≤ y * 2 ^ s := Nat.mul_le_mul_right _ hlt
    rw [Nat.add_mul] at h5
    omega
  have D1 : Dig Y y1 y0 U u1 := ⟨by omega, by omega, by omega, by omega, hUY, by omega⟩
  have HD := Lib.hid D1
  obtain ⟨st1, st2⟩ := D1.start
  obtain ⟨q, hq⟩ : ∃ q, q = U / y1 := ⟨_, rfl⟩
  have rq : (U : Int) / (y1 : Int) = (q : Int) := by rw [hq]; simp
  obtain ⟨t, ht⟩ : ∃ t, t = q * y1 := ⟨_, rfl⟩
  have rt : (q : Int) * (y1 : Int) = (t : Int) := by rw [ht]; simp
  have htU : t ≤ U := by rw [ht, hq]; exact Nat.div_mul_le_self _ _
  have htR : U - t < y1 := by
    rw [ht, hq, Nat.mul_comm]
    have := Nat.mod_lt U (show 0 < y1 by omega)
    have := Nat.mod_add_div U y1
    omega
  obtain ⟨Q, hQ⟩ : ∃ Q, Q = (U * 4294967296 + u1) / Y := ⟨_, rfl⟩
  have b1 : 2147483648 ≤ y1 := D1.h1
  have b2 : y1 < 4294967296 := D1.h1b
  have b3 : y0 < 4294967296 := D1.h0
  have b4 : u1 < 4294967296 := D1.hu
  have b5 : u0 < 4294967296 := by omega
  have b6 : q ≤ 4294967297 := by rw [hq]; exact st2
  have HQ : Hid (Q ≤ q) := by rw [hQ, hq]; exact st1
  have HU : Hid (U = q * y1 + (U - t)) := by show _ = _; omega
  have hYb1 := hYb.2
  have HQd := Lib.hid hQ
  have HYd := Lib.hid hYd
  have HUd := Lib.hid hUd
  have HLd := Lib.hid hLd
  have HL2 : Hid (L = u1 * 4294967296 + u0) := by show _ = _; omega
  clear hQ hYd hUd hLd hy1 hy0 hu1 hu0 hq ht st1 st2 D1 hhi hYb
  go_upto_block 0 with (fail)
  go_cut [15] (fun v wx => v = .int .u64 (Q : Nat) ∧ w = wx)
  case first =>
    go_wp2
    go_loop [15, 16] (fun a b => ∃ q r : Nat, a = .int .u64 (q : Nat) ∧ b = .int .u64 (r : Nat) ∧ r < 4294967296 ∧ q ≤ 4294967297 ∧ Hid (U = q * y1 + r) ∧ Hid (Q ≤ q)) (fun a _ => (intOf a).toNat)
    case atStart => exact ⟨q, U - t, rfl, lit64 (by omega), by omega, b6, HU, HQ⟩
    case round =>
      clear HU HQ rq rt htU htR b6
      obtain ⟨q, r, rfl, rfl, hr, hq, HU, HQ⟩ := hrel
      have hmore : Hid (4294967296 ≤ q ∨ 4294967296 * r + u1 < q * y0 → Q < q) := fun h => by rw [HQd.out]; exact HD.out.more HU.out h
      have hdone : Hid (q * y0 ≤ 4294967296 * r + u1 → q = Q) := fun h => by rw [HQd.out]; exact HD.out.done HU.out (by rw [← HQd.out]; exact HQ.out) h
      have hdone1 : Hid (Q < q → 4294967296 ≤ r + y1 → q - 1 = Q) := fun h0 h => by
        rw [HQd.out]
        refine HD.out.done (r := r + y1) ?_ (by rw [← HQd.out]; omega) ?_
        · have := HU.out
          obtain ⟨p, rfl⟩ : ∃ p, q = p + 1 := ⟨q - 1, by omega⟩
          rw [Nat.add_sub_cancel, this, Nat.add_mul]; omega
        · have h1 : (q - 1) * y0 ≤ 4294967296 * 4294967295 := Nat.mul_le_mul (by omega) (by omega)
          omega
      have hnext : Hid (Q < q → U = (q - 1) * y1 + (r + y1)) := fun h0 => by
        have := HU.out
        obtain ⟨p, rfl⟩ : ∃ p, q = p + 1 := ⟨q - 1, by omega⟩
        rw [Nat.add_sub_cancel, this, Nat.add_mul]; omega
      by_cases hbig : 4294967296 ≤ q
      · have hQq : Hid (Q < q) := hmore.out (.inl hbig)
        have hq1 : 1 ≤ q := by omega
        have rd : decide ((4294967296 : Int) ≤ (q : Int)) = true := by simp; omega
        by_cases hbr : 4294967296 ≤ r + y1
        · have rd2 : decide ((4294967296 : Int) ≤ (r : Int) + (y1 : Int)) = true := by simp; omega
          go_wp2
          go_meet
          exact ⟨lit64 (by have := hdone1.out hQq.out hbr; omega), rfl⟩
        · have rd2 : decide ((4294967296 : Int) ≤ (r : Int) + (y1 : Int)) = false := by simp; omega
          go_wp2
          go_round
          case rel => exact ⟨q - 1, r + y1, lit64 (by omega), lit64 (by omega), by omega, by omega, hnext.out hQq.out, by have := hQq.out; show _ ≤ _; omega⟩
          case measure => simp [intOf]; omega
      · have rd : decide ((4294967296 : Int) ≤ (q : Int)) = false := by simp; omega
        obtain ⟨P, hP⟩ : ∃ P, P = q * y0 := ⟨_, rfl⟩
        have hPb : P ≤ 4294967295 * 4294967295 := by rw [hP]; exact Nat.mul_le_mul (by omega) (by omega)
        have rP : (q : Int) * (y0 : Int) = (P : Int) := by rw [hP]; simp
        rw [← hP] at hmore hdone
        clear hP
        by_cases hgt : 4294967296 * r + u1 < P
        · have hQq : Hid (Q < q) := hmore.out (.inr hgt)
          have hq1 : 1 ≤ q := by have := hQq.out; omega
          have rd3 : decide ((4294967296 : Int) * (r : Int) + (u1 : Int) < (P : Int)) = true := by simp; omega
          by_cases hbr : 4294967296 ≤ r + y1
          · have rd2 : decide ((4294967296 : Int) ≤ (r : Int) + (y1 : Int)) = true := by simp; omega
            go_wp2
            go_meet
            exact ⟨lit64 (by have := hdone1.out hQq.out hbr; omega), rfl⟩
          · have rd2 : decide ((4294967296 : Int) ≤ (r : Int) + (y1 : Int)) = false := by simp; omega
            go_wp2
            go_round
            case rel => exact ⟨q - 1, r + y1, lit64 (by omega), lit64 (by omega), by omega, by omega, hnext.out hQq.out, by have := hQq.out; show _ ≤ _; omega⟩
            case measure => simp [intOf]; omega
        · have hqQ := Lib.hid (hdone.out (by omega))
          have rd3 : decide ((4294967296 : Int) * (r : Int) + (u1 : Int) < (P : Int)) = false := by simp; omega
          go_wp2
          go_meet
          exact ⟨lit64 (by have := hqQ.out; omega), rfl⟩
  case rest =>
    obtain ⟨rfl, rfl⟩ := hcut
    obtain ⟨V, hVd⟩ : ∃ V, V = (U * 4294967296 + u1) % Y := ⟨_, rfl⟩
    have rV : IntKind.u64.wrap (IntKind.u64.wrap (IntKind.u64.wrap ((U : Int) * 4294967296) + (u1 : Int)) - IntKind.u64.wrap ((Q : Int) * (Y : Int))) = (V : Int) := by
      have := HD.out.rest hYb1 HQd.out
      rw [hVd, ← this]
      simp only [IntKind.wrap_u64]
      omega
    have hVY : V < Y := by rw [hVd]; exact Nat.mod_lt _ (by omega)
    have D2 : Dig Y y1 y0 V u0 := ⟨HD.out.hY, b1, b2, b3, hVY, b5⟩
    have HD2 := Lib.hid D2
    obtain ⟨st1, st2⟩ := D2.start
    obtain ⟨q2, hq2⟩ : ∃ q2, q2 = V / y1 := ⟨_, rfl⟩
    have rq2 : (V : Int) / (y1 : Int) = (q2 : Int) := by rw [hq2]; simp
    obtain ⟨t2, ht2⟩ : ∃ t2, t2 = q2 * y1 := ⟨_, rfl⟩
    have rt2 : (q2 : Int) * (y1 : Int) = (t2 : Int) := by rw [ht2]; simp
    have htV : t2 ≤ V := by rw [ht2, hq2]; exact Nat.div_mul_le_self _ _
    have htV2 : V - t2 < y1 := by
      rw [ht2, hq2, Nat.mul_comm]
      have := Nat.mod_lt V (show 0 < y1 by omega)
      have := Nat.mod_add_div V y1
      omega
    obtain ⟨Q2, hQ2⟩ : ∃ Q2, Q2 = (V * 4294967296 + u0) / Y := ⟨_, rfl⟩
    have c6 : q2 ≤ 4294967297 := by rw [hq2]; exact st2
    have HQ2 : Hid (Q2 ≤ q2) := by rw [hQ2, hq2]; exact st1
    have HU2 : Hid (V = q2 * y1 + (V - t2)) := by show _ = _; omega
    have HQd2 := Lib.hid hQ2
    have HVd := Lib.hid hVd
    clear hQ2 hVd hq2 ht2 st1 st2 D2 HU HQ rq rt htU htR b6
    go_upto_block 2 with (fail)
    go_cut [18] (fun v wx => v = .int .u64 (Q2 : Nat) ∧ w = wx)
    case first =>
      go_wp2
      go_loop [18, 16] (fun a b => ∃ q r : Nat, a = .int .u64 (q : Nat) ∧ b = .int .u64 (r : Nat) ∧ r < 4294967296 ∧ q ≤ 4294967297 ∧ Hid (V = q * y1 + r) ∧ Hid (Q2 ≤ q)) (fun a _ => (intOf a).toNat)
      case atStart => exact ⟨q2, V - t2, rfl, lit64 (by omega), by omega, c6, HU2, HQ2⟩
      case round =>
        clear HU2 HQ2 rq2 rt2 htV htV2 c6
        obtain ⟨q, r, rfl, rfl, hr, hq, HU, HQ⟩ := hrel
        have hmore : Hid (4294967296 ≤ q ∨ 4294967296 * r + u0 < q * y0 → Q2 < q) := fun h => by rw [HQd2.out]; exact HD2.out.more HU.out h
        have hdone : Hid (q * y0 ≤ 4294967296 * r + u0 → q = Q2) := fun h => by rw [HQd2.out]; exact HD2.out.done HU.out (by rw [← HQd2.out]; exact HQ.out) h
        have hdone1 : Hid (Q2 < q → 4294967296 ≤ r + y1 → q - 1 = Q2) := fun h0 h => by
          rw [HQd2.out]
          refine HD2.out.done (r := r + y1) ?_ (by rw [← HQd2.out]; omega) ?_
          · have := HU.out
            obtain ⟨p, rfl⟩ : ∃ p, q = p + 1 := ⟨q - 1, by omega⟩
            rw [Nat.add_sub_cancel, this, Nat.add_mul]; omega
          · have h1 : (q - 1) * y0 ≤ 4294967296 * 4294967295 := Nat.mul_le_mul (by omega) (by omega)
            omega
        have hnext : Hid (Q2 < q → V = (q - 1) * y1 + (r + y1)) := fun h0 => by
          have := HU.out
          obtain ⟨p, rfl⟩ : ∃ p, q = p + 1 := ⟨q - 1, by omega⟩
          rw [Nat.add_sub_cancel, this, Nat.add_mul]; omega
        by_cases hbig : 4294967296 ≤ q
        · have hQq : Hid (Q2 < q) := hmore.out (.inl hbig)
          have hq1 : 1 ≤ q := by omega
          have rd : decide ((4294967296 : Int) ≤ (q : Int)) = true := by simp; omega
          by_cases hbr : 4294967296 ≤ r + y1
          · have rd2 : decide ((4294967296 : Int) ≤ (r : Int) + (y1 : Int)) = true := by simp; omega
            go_wp2
            go_meet
            exact ⟨lit64 (by have := hdone1.out hQq.out hbr; omega), rfl⟩
          · have rd2 : decide ((4294967296 : Int) ≤ (r : Int) + (y1 : Int)) = false := by simp; omega
            go_wp2
            go_round
            case rel => exact ⟨q - 1, r + y1, lit64 (by omega), lit64 (by omega), by omega, by omega, hnext.out hQq.out, by have := hQq.out; show _ ≤ _; omega⟩
            case measure => simp [intOf]; omega
        · have rd : decide ((4294967296 : Int) ≤ (q : Int)) = false := by simp; omega
          obtain ⟨P, hP⟩ : ∃ P, P = q * y0 := ⟨_, rfl⟩
          have hPb : P ≤ 4294967295 * 4294967295 := by rw [hP]; exact Nat.mul_le_mul (by omega) (by omega)
          have rP : (q : Int) * (y0 : Int) = (P : Int) := by rw [hP]; simp
          rw [← hP] at hmore hdone
          clear hP
          by_cases hgt : 4294967296 * r + u0 < P
          · have hQq : Hid (Q2 < q) := hmore.out (.inr hgt)
            have hq1 : 1 ≤ q := by have := hQq.out; omega
            have rd3 : decide ((4294967296 : Int) * (r : Int) + (u0 : Int) < (P : Int)) = true := by simp; omega
            by_cases hbr : 4294967296 ≤ r + y1
            · have rd2 : decide ((4294967296 : Int) ≤ (r : Int) + (y1 : Int)) = true := by simp; omega
              go_wp2
              go_meet
              exact ⟨lit64 (by have := hdone1.out hQq.out hbr; omega), rfl⟩
            · have rd2 : decide ((4294967296 : Int) ≤ (r : Int) + (y1 : Int)) = false := by simp; omega
              go_wp2
              go_round
              case rel => exact ⟨q - 1, r + y1, lit64 (by omega), lit64 (by omega), by omega, by omega, hnext.out hQq.out, by have := hQq.out; show _ ≤ _; omega⟩
              case measure => simp [intOf]; omega
          · have hqQ := Lib.hid (hdone.out (by omega))
            have rd3 : decide ((4294967296 : Int) * (r : Int) + (u0 : Int) < (P : Int)) = false := by simp; omega
            go_wp2
            go_meet
            exact ⟨lit64 (by have := hqQ.out; omega), rfl⟩
    case rest =>
      obtain ⟨rfl, rfl⟩ := hcut
      obtain ⟨W, hWd⟩ : ∃ W, W = (V * 4294967296 + u0) % Y := ⟨_, rfl⟩
      have rW : IntKind.u64.wrap (IntKind.u64.wrap (IntKind.u64.wrap ((V : Int) * 4294967296) + (u0 : Int)) - IntKind.u64.wrap ((Q2 : Int) * (Y : Int))) = (W : Int) := by
        have := HD2.out.rest hYb1 HQd2.out
        rw [hWd, ← this]
        simp only [IntKind.wrap_u64]
        omega
      have HWd := Lib.hid hWd
      clear hWd
      have k1 : Q < 4294967296 := by rw [HQd.out]; exact HD.out.qlt
      have k2 : Q2 < 4294967296 := by rw [HQd2.out]; exact HD2.out.qlt
      have hfin : Hid ((hi * 18446744073709551616 + lo) / y = Q * 4294967296 + Q2 ∧ (hi * 18446744073709551616 + lo) % y = W / 2 ^ s) :=
        div_fin (by omega) hs hlo HYd.out HUd.out HLd.out HL2.out HQd.out HVd.out HQd2.out HWd.out
      go_wp2
      go_ret2
      refine ⟨?_, rfl⟩
      rw [hfin.out.1, hfin.out.2]
      exact ret_pair (show (Q : Int) * 4294967296 + (Q2 : Int) = ((Q * 4294967296 + Q2 : Nat) : Int) by omega) (show (W : Int) / 2 ^ s = ((W / 2 ^ s : Nat) : Int) by simp)

def DivPost (hi lo y : Nat) (w : World) (e : Ending) (w' : World) : Prop :=
  ∃ q r n : Nat, e = .returned (.tuple #[.int .u64 (q : Nat), .int .u64 (r : Nat)]) ∧ Hid (q = (hi * 18446744073709551616 + lo) / y) ∧ Hid (r = (hi * 18446744073709551616 + lo) % y) ∧ q < 18446744073709551616 ∧ r < y ∧ w' = w.drewN n

set_option maxHeartbeats 1000000 in
theorem div64_small (lo y : Nat) (hy : y < 18446744073709551616) (hlo : lo < 18446744073709551616) (h0 : 0 < y) (w : World) :
    Calls Tryd.prog 92 #[.int .u64 0, .int .u64 lo, .int .u64 y] w (DivPost 0 lo y w) := by
  have q0 : ((y : Int) == 0) = false := by simp; omega
  have q1 : decide ((y : Int) ≤ 0) = false := by simp; omega
  have q3 : (1 : Int) ≤ (y : Int) := by omega
  have e1 : Hid (lo / y < 18446744073709551616) := Nat.lt_of_le_of_lt (Nat.div_le_self _ _) hlo
  obtain ⟨q, hq⟩ : ∃ q, q = lo / y := ⟨_, rfl⟩
  obtain ⟨r, hr⟩ : ∃ r, r = lo % y := ⟨_, rfl⟩
  have rq : (lo : Int) / (y : Int) = (q : Int) := by rw [hq]; simp
  have rr : (lo : Int) % (y : Int) = (r : Int) := by rw [hr]; simp
  rw [← hq] at e1
  have HQ : Hid (q = (0 * 18446744073709551616 + lo) / y) := by rw [Nat.zero_mul, Nat.zero_add]; exact hq
  have HR : Hid (r = (0 * 18446744073709551616 + lo) % y) := by rw [Nat.zero_mul, Nat.zero_add]; exact hr
  have hqb := e1.out
  have hrb : r < y := by rw [hr]; exact Nat.mod_lt _ h0
  clear hq hr
  go_enter Tryd.func92, Tryd.ntmps92
  go_wp2
  go_quiet (fail)
  go_wp2
  go_ret2
  exact ⟨q, r, nq, ret_pair rfl rr, HQ, HR, hqb, hrb, rfl⟩

theorem div64_any (hi lo y : Nat) (hy : y < 18446744073709551616) (hlo : lo < 18446744073709551616) (hlt : hi < y) (w : World) :
    Calls Tryd.prog 92 #[.int .u64 hi, .int .u64 lo, .int .u64 y] w (DivPost hi lo y w) := by
  rcases Nat.eq_zero_or_pos hi with rfl | h0
  · exact div64_small lo y hy hlo hlt w
  · refine (div64_big hi lo y hy hlo hlt h0 w).mono fun e w' ⟨h1, h2⟩ => ⟨_, _, 0, h1, rfl, rfl, ?_, Nat.mod_lt _ (by omega), h2⟩
    rw [Nat.div_lt_iff_lt_mul (by omega)]
    have : (hi + 1) * 18446744073709551616 ≤ y * 18446744073709551616 := Nat.mul_le_mul_right _ hlt
    omega
end Go.Proofs.YteanpdiceaijhaaDoor
