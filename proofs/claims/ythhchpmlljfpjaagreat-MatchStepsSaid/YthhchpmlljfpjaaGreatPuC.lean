import Derived.Test.YthhchpmlljfpjaaGreatPuA
import Derived.Test.YthhchpmlljfpjaaGreatPtP
import Derived.Test.YthhchpmlljfpjaaGreatPtR
namespace Go.Proofs.YthhchpmlljfpjaaGreat
open Go.RowKit

/-! May a tree be? -/
@[go_sem] theorem eqSet (a b c d e f g h : Int) (w : World) : (Op.equalIn 10000 39 (.agg #[.int .u64 a, .int .u64 b, .int .u64 c, .int .u64 d]) (.agg #[.int .u64 e, .int .u64 f, .int .u64 g, .int .u64 h])).run Tryz.prog w = .ok (a == e && (b == f && (c == g && d == h))) w := by
  have u3 := Tryz.underlying37
  have a3 := Tryz.isAgg37
  have z3 := Tryz.sizeOf37
  rw [show (10000 : Nat) = 9999 + 1 from rfl, Op.equalIn]
  simp only [Sem.run_bind, run_underlying Tryz.underlying39, Result.andThen_ok]
  simp only [Std.Legacy.Range.forIn_eq_forIn_range', Std.Legacy.Range.size, Nat.sub_zero, Nat.add_sub_cancel, Nat.div_one, List.range'_succ, List.range'_zero, List.forIn_cons, List.forIn_nil]
  go_simp
  by_cases h1 : a = e <;> by_cases h2 : b = f <;> by_cases h3 : c = g <;> by_cases h4 : d = h <;> simp [h1, h2, h3, h4]
theorem isZ_int (s : S4) : (((s.a : Nat) : Int) == 0 && (((s.b : Nat) : Int) == 0 && (((s.c : Nat) : Int) == 0 && ((s.d : Nat) : Int) == 0))) = s.isZ := by
  unfold S4.isZ
  rw [Bool.eq_iff_iff]
  simp only [Bool.and_eq_true, beq_iff_eq]
  omega
def In64 (x : Int) : Prop := -9223372036854775808 ≤ x ∧ x ≤ 9223372036854775807
set_option maxHeartbeats 1000000 in
set_option maxRecDepth 100000 in
theorem p_fits (k : Int) (s : S4) (m n : Int) (a : Option Addr) (len c : Nat) (w : World) (hlen : len ≤ 1099511627776) (hm : In64 m) (hn : In64 n) :
    Calls Tryz.prog 85 #[nodeVal k s m n (.slice a len c)] w fun e w' => e = .returned (.bool (fitT k s m n len)) ∧ Below w.heap.size w w' := by
  have hz := isZ_int s
  obtain ⟨z, hzz⟩ : ∃ z, s.isZ = z := ⟨_, rfl⟩
  rw [hzz] at hz
  have HZ := Lib.hid hzz
  clear hzz
  have hl0 : ((len : Int) == 0) = (len == 0) := by rw [Bool.eq_iff_iff]; simp
  have hl1 : ((len : Int) == 1) = (len == 1) := by rw [Bool.eq_iff_iff]; simp; omega
  go_enter Tryz.func85, Tryz.ntmps85
  go_wp2_with (go_at_call 99; refine (p_isInterval m n _ hm.1 hm.2 hn.1 hn.2).mono ?_; rintro e w2 ⟨rfl, rfl⟩)
  all_goals
    go_ret
    refine ⟨ret_bool ?_, (Below.refl _ _).alloc (Nat.le_refl _) _⟩
    have hzo := HZ.out
    clear HZ hz
    unfold fitT
    rw [hzo]
    simp_all <;> omega
end Go.Proofs.YthhchpmlljfpjaaGreat
