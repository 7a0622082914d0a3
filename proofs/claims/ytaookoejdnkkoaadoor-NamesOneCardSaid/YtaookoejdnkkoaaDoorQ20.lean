import Derived.Test.YtaookoejdnkkoaaDoorQGA
import Derived.Test.YtaookoejdnkkoaaDoorCards
import Derived.Test.YtaookoejdnkkoaaDoorTie
import Derived.ChangeMaps5
import Derived.Deep.DeepHandedRow
import Derived.LaidOnce
import Derived.Lay
import Derived.OpenShut
import Derived.ProofKit
import Derived.SevenTiedAt
import Derived.Test.YtaookoejdnkkoaaDoorQ07
import Derived.Test.YtaookoejdnkkoaaDoorQ09
import Derived.Test.YtaookoejdnkkoaaDoorQ15
namespace Go.Proofs.YtaookoejdnkkoaaDoor
open Go.RowKit

open Go.ChangeShapes Go.WideShapes Go.ChangeAt Go.RowKit

/-! What is laid. -/
theorem laid_step {w : World} {n : String} {d : DataW Unit} {rest : List (String × DataW Unit)} {ps : List MemPlace} (h : DataW.LaidVars Tryd.prog w ((n, d) :: rest) ps) :
    (∃ g t cs f p, Tryd.prog.globalNamed n = some g ∧ (Tryd.prog.globals[g]?).map (·.type) = some t ∧ w.var? Tryd.prog n = some cs ∧ DataW.trod (fun _ => ()) Tryd.prog w 0 (fun _ => true) false f t cs.toList = some (d, p)) ∧ ∃ qs, DataW.LaidVars Tryd.prog w rest qs := by
  obtain ⟨g, t, cs, f, p, q, hg, ht, hv, hd, hr, _⟩ := h
  exact ⟨⟨g, t, cs, f, p, hg, ht, hv, hd⟩, q, hr⟩
theorem laid_mem {w : World} : ∀ {l : List (String × DataW Unit)} {ps : List MemPlace}, DataW.LaidVars Tryd.prog w l ps → ∀ n d, (n, d) ∈ l →
    ∃ g t cs f p, Tryd.prog.globalNamed n = some g ∧ (Tryd.prog.globals[g]?).map (·.type) = some t ∧ w.var? Tryd.prog n = some cs ∧ DataW.trod (fun _ => ()) Tryd.prog w 0 (fun _ => true) false f t cs.toList = some (d, p) := by
  intro l
  induction l with
  | nil => intro ps _ n d hm; cases hm
  | cons q l ih =>
    obtain ⟨n0, d0⟩ := q
    intro ps h n d hm
    obtain ⟨h1, qs, h2⟩ := laid_step h
    rcases List.mem_cons.1 hm with he | hm
    · cases he; exact h1
    · exact ih h2 n d hm

open Go.ChangeShapes Go.WideShapes Go.ChangeAt Go.RowKit

set_option maxRecDepth 100000 in
/-- A row of numbers of one cell each. -/
theorem rowIntsC {w : World} {f n : Nat} {t e : TypeId} {k : IntKind} {cs : List Value} {L : List Int} {p : List MemPlace} (ht : Tryd.prog.underlying t = some (.array n e)) (he : Tryd.prog.underlying e = some (.int k)) (hc : Tryd.prog.cellsOf e = 1)
    (h : DataW.trod (fun _ => ()) Tryd.prog w 0 (fun _ => true) false f t cs = some (.agg (L.map fun z => .lit (.int k z)), p)) : ∀ i, i < n → cs[i]? = some (.int k (L.getD i 0)) := by
  obtain ⟨xs, m, rfl, hx, hl, hn, hel⟩ := DataW.trod_array ht h
  intro i hi
  have h1 := hel i hi
  rw [hc, Nat.mul_one, List.getElem?_eq_getElem (show i < xs.length by omega)] at h1
  obtain ⟨z, hz, hz2, _⟩ := DataW.trod_int he h1
  have h2 : cs[i]? = some (.int k z) := by
    have h3 : ((cs.drop i).take 1)[0]? = some (.int k z) := by rw [hz]; rfl
    rw [List.getElem?_take, if_pos (by decide), List.getElem?_drop, Nat.add_zero] at h3
    exact h3
  rw [h2]
  have h4 : L.map (fun z => (DataW.lit (Lit.int k z) : DataW Unit)) = xs.map (·.1) := by
    have := (Prod.mk.inj hx).1
    injection this
  have h5 : (L.map (fun z => (DataW.lit (Lit.int k z) : DataW Unit)))[i]? = some (.lit (.int k z)) := by
    rw [h4, List.getElem?_map, List.getElem?_eq_getElem (show i < xs.length by omega), hz2]; rfl
  rw [List.getElem?_map] at h5
  cases h6 : L[i]? with
  | none => rw [h6] at h5; cases h5
  | some y =>
    rw [h6] at h5
    have h7 := Option.some.inj h5
    have h8 : y = z := by injection h7 with h7; injection h7
    simp [List.getD, h6, h8]

set_option maxRecDepth 100000 in
theorem ht_of {w : World} {l : List (String × DataW Unit)} {ps : List MemPlace} (h : DataW.LaidVars Tryd.prog w l ps) (hs : ("vouch/coding.hexWorths", (Rows.laid_vouch_coding_hexWorths : DataW Unit)) ∈ l) : HT w := by
  obtain ⟨gp, tP, csp, fp, pp, h1, h2, h3, h4⟩ := laid_mem h _ _ hs
  obtain rfl := Option.some.inj ((show Tryd.prog.globalNamed "vouch/coding.hexWorths" = some 1 by kernel_rfl).symm.trans h1)
  obtain rfl := Option.some.inj ((show (Tryd.prog.globals[1]?).map (·.type) = some 127 by kernel_rfl).symm.trans h2)
  have h5 : (Rows.laid_vouch_coding_hexWorths : DataW Unit) = .agg (hexT.map fun z => .lit (.int .i8 z)) := rfl
  rw [h5] at h4
  have h6 := rowIntsC Tryd.underlying127 Tryd.underlying126 (by kernel_rfl) h4
  intro i hi
  rw [World.var?_cell h1 h3]
  have h7 := h6 i hi
  rw [Array.getElem?_toList] at h7
  rw [h7]
  rfl
set_option maxRecDepth 100000 in
theorem bt_of {w : World} {l : List (String × DataW Unit)} {ps : List MemPlace} (h : DataW.LaidVars Tryd.prog w l ps) (hs : ("vouch/coding.base64Worths", (Rows.laid_vouch_coding_base64Worths : DataW Unit)) ∈ l) : BT w := by
  obtain ⟨gp, tP, csp, fp, pp, h1, h2, h3, h4⟩ := laid_mem h _ _ hs
  obtain rfl := Option.some.inj ((show Tryd.prog.globalNamed "vouch/coding.base64Worths" = some 2 by kernel_rfl).symm.trans h1)
  obtain rfl := Option.some.inj ((show (Tryd.prog.globals[2]?).map (·.type) = some 127 by kernel_rfl).symm.trans h2)
  have h5 : (Rows.laid_vouch_coding_base64Worths : DataW Unit) = .agg (b64T.map fun z => .lit (.int .i8 z)) := rfl
  rw [h5] at h4
  have h6 := rowIntsC Tryd.underlying127 Tryd.underlying126 (by kernel_rfl) h4
  intro i hi
  rw [World.var?_cell h1 h3]
  have h7 := h6 i hi
  rw [Array.getElem?_toList] at h7
  rw [h7]
  rfl

/-! The reference: the item at a place. -/
theorem i64_joinD (x y k : Nat) (hk : k ≤ 32) (hy : y < 2 ^ k) (hx : x * 2 ^ k < 9223372036854775808) : bits BinOp.or IntKind.i64 ((x * 2 ^ k : Nat) : Int) (y : Int) = ((x * 2 ^ k + y : Nat) : Int) := by
  have h2 : (2 : Nat) ^ k ≤ 2 ^ 32 := Nat.pow_le_pow_right (by decide) hk
  rw [i64_or_natural _ _ hx (by omega), nat_joinB k _ _ hy]
def RItPost (b : List Nat) (i : Int × Nat × Nat × Nat) (w : World) (e : Ending) (w' : World) : Prop :=
  w = w' ∧ ∃ (k : Int) (t f o : Nat), i = (k, t, f, o) ∧ e = .returned (.tuple #[.int .u8 (t : Nat), .int .i64 (f : Nat), .int .i64 (o : Nat), .int .i64 k])

theorem own8_of {w : World} {B n : Nat} {v : Value} {xs : List Value} {l : List Nat} (h : w.ownsRow B 5 1 v n xs) (hn : n = l.length) (hx : xs = u8s l) : own8 w B v l := by
  subst hn hx; exact h
theorem mod_next (N k : Nat) : N / 256 ^ k % 256 * 256 ^ k + N % 256 ^ k = N % 256 ^ (k + 1) := by
  rw [Nat.mod_pow_succ, Nat.mul_comm, Nat.add_comm]
theorem wrap_u8N (n : Nat) : IntKind.u8.wrap (n : Int) = ((n % 256 : Nat) : Int) := by
  rw [show IntKind.u8.wrap (n : Int) = (n : Int) % 256 from by simp [IntKind.wrap, IntKind.signed, IntKind.bits]]
  omega
/-- The bytes of the low part of a number. -/
structure LowB (N k : Nat) (l : List Nat) : Prop where
  len : l.length = k
  b8 : B8 l
  vl : bval l = N % 256 ^ k
  more : k = 0 ∨ 0 < N / 256 ^ (k - 1)
theorem LowB.next {N k : Nat} {l : List Nat} (h : LowB N k l) (hn : 0 < N / 256 ^ k) : LowB N (k + 1) ((N / 256 ^ k % 256) :: l) := by
  refine ⟨by simp [h.len], fun x hx => ?_, ?_, .inr (by simpa using hn)⟩
  · rcases List.mem_cons.1 hx with rfl | hx
    · exact Nat.mod_lt _ (by decide)
    · exact h.b8 x hx
  · rw [bval_cons, h.len, h.vl, mod_next]
theorem LowB.fin {N k : Nat} {l : List Nat} (h : LowB N k l) (h0 : N / 256 ^ k = 0) : BNum l N := by
  have hlt : N < 256 ^ k := by
    rcases Nat.div_eq_zero_iff.1 h0 with h1 | h1
    · exact absurd h1 (Nat.pos_iff_ne_zero.1 (Nat.pow_pos (by decide)))
    · exact h1
  have hv : bval l = N := by rw [h.vl, Nat.mod_eq_of_lt hlt]
  refine ⟨h.b8, fun hp => ?_, hv⟩
  rcases h.more with hk | hk
  · rw [h.len] at hp; omega
  · intro hz
    rcases l with _ | ⟨x, t⟩
    · simp at hp
    · have hx : x = 0 := hz
      subst hx
      have h1 := bval_lt (b8_tail h.b8)
      have h2 : bval (0 :: t) = bval t := by rw [bval_cons]; omega
      have h3 : t.length = k - 1 := by have := h.len; simp at this; omega
      rw [h2] at hv
      rw [h3, hv] at h1
      rw [Nat.div_eq_of_lt h1] at hk
      omega

end Go.Proofs.YtaookoejdnkkoaaDoor
