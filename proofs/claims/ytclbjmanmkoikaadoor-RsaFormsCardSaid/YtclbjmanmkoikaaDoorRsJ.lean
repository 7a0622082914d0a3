import Derived.Test.YtclbjmanmkoikaaDoorRsA
import Derived.Test.YtclbjmanmkoikaaDoorCo1
import Derived.Test.YtclbjmanmkoikaaDoorShelf
import Derived.Lib.AppendStr
import Derived.Lib.Hide
import Derived.Deep.RegionHeld3
namespace Go.Proofs.YtclbjmanmkoikaaDoor
open Go.RowKit

/-! Pieces put together. -/
def StrsAt (w : World) (g : Nat) (L : List ByteArray) : Prop := ∀ (i : Nat) s, L[i]? = some s → w.cell? ⟨g, i, none⟩ = some (.string s)
theorem StrsAt.below {w w' : World} {g : Nat} {L : List ByteArray} (h : StrsAt w g L) (hb : Below w.heap.size w w') : StrsAt w' g L := fun i s hs => below_cell hb _ _ (h i s hs)
def flatS (L : List ByteArray) : List Nat := (L.map bsN).flatten
theorem flatS_snoc (L : List ByteArray) (i : Nat) (q : ByteArray) (h : L[i]? = some q) : flatS (L.take (i + 1)) = flatS (L.take i) ++ bsN q := by
  rw [List.take_add_one, h]
  simp [flatS]
theorem flatS_le (L : List ByteArray) (i : Nat) : (flatS (L.take i)).length ≤ (flatS L).length := by
  have : flatS L = flatS (L.take i) ++ flatS (L.drop i) := by
    unfold flatS
    rw [← List.flatten_append, ← List.map_append, List.take_append_drop]
  rw [this, List.length_append]
  omega
theorem strCells_u8s (s : ByteArray) : Lib.strCells s = u8s (bsN s) := by simp [Lib.strCells, u8s, bsN]
theorem wpl_appS {ops : Array Oper} {rest : List Oper} {o : Oper} {a : Act} {w : World} {Q : Exit → Act → World → Prop} (hgd : o.guard = none) (sl x : Operand)
    (ho : o.op = .call { callee := .builtin .append, args := #[sl, x], argTypes := #[25, 9] })
    (base : Nat) (v : Value) (n : Nat) (xs : List Nat) (hs : a.eval sl = v) (hown : w.ownsRow base 5 1 v n (u8s xs)) (s : ByteArray) (hx : a.eval x = .string s)
    (hbytes : n + s.size ≤ 549755813888) (hbase : base ≤ w.heap.size)
    (h : ∀ v' w', w'.ownsRow base 5 1 v' (n + s.size) (u8s (xs ++ bsN s)) → w.grownBy w' v.ownBlock → wpList Tryd.prog ops Q rest (a.put o.dst v') w') : wpList Tryd.prog ops Q (o :: rest) a w := by
  obtain ⟨i, hi, hh⟩ := Option.map_eq_some_iff.1 info8
  simp only [Prod.mk.injEq] at hh
  refine Lib.wpList_append_own_string (P := Tryd.prog) w hgd sl x 25 9 ho base 5 i Tryd.underlying25 Tryd.underlying9 hi hh.1 hh.2.1 hh.2.2 v n (u8s xs) hs hown s hx (by simp [maxLen]; omega) (by omega) hbase ?_
  intro v' w' h1 h2 _
  refine h v' w' ?_ h2
  rw [strCells_u8s] at h1
  rw [show u8s (xs ++ bsN s) = u8s xs ++ u8s (bsN s) by simp [u8s]]
  exact h1
set_option maxHeartbeats 800000 in
set_option maxRecDepth 100000 in
theorem p_joined (g : Nat) (L : List ByteArray) (n : Nat) (w : World) (hn : L.length = n) (hnb : n ≤ 1000) (hP : StrsAt w g L) (hbig : (flatS L).length ≤ 549755813888) :
    Calls Tryd.prog 29 #[.slice (some ⟨g, 0, none⟩) n n] w fun e w' => ∃ v, e = .returned v ∧ own8 w' w.heap.size v (flatS L) ∧ Below w.heap.size w w' := by
  have HP := Lib.hid hP
  have HN := Lib.hid hn
  have HBG := Lib.hid hbig
  clear hP hn hbig
  go_enter Tryd.func29, Tryd.ntmps29
  go_wp2
  go_loopw [3, 8] (fun v iv wr => ∃ (k : Nat), k ≤ n ∧ iv = .int .i64 (k : Nat) ∧ Hid (own8 wr w.heap.size v (flatS (L.take k))) ∧ Hid (Below w.heap.size w wr)) (fun _ iv _ => n - (intOf iv).toNat)
  case atStart => exact ⟨0, Nat.zero_le _, rfl, World.ownsRow_nil _ _ _ _, Below.refl _ _⟩
  case round =>
    obtain ⟨k, hk, rfl, HO, HB⟩ := hrel
    by_cases hlt2 : k < n
    · obtain ⟨q, hq⟩ : ∃ q, L[k]? = some q := ⟨_, List.getElem?_eq_getElem (by rw [HN.out]; exact hlt2)⟩
      have hcell := (HP.out.below HB.out) k q hq
      have hfs := flatS_snoc L k q hq
      have hle := flatS_le L (k + 1)
      have hle2 : (flatS (L.take k)).length + q.size ≤ 549755813888 := by rw [hfs, List.length_append, bsN_len] at hle; have := HBG.out; omega
      have HFS := Lib.hid hfs
      have hsz := HB.out.size
      clear hfs hle hq
      go_wp2_with (at_builtin; refine wpl_appS rfl _ _ rfl w.heap.size _ (flatS (L.take k)).length (flatS (L.take k)) rfl HO.out q rfl hle2 hsz ?_; intro v5 w5 hown5 hg5)
      go_roundw
      case rel =>
        refine ⟨k + 1, by omega, by go_num, ?_, HB.out.grown hg5 hsz (fun q hq => (World.ownsRow.lt HO.out q hq).1)⟩
        show w5.ownsRow _ _ _ _ _ _
        rw [HFS.out, List.length_append, bsN_len]
        exact hown5
      case measure => simp [intOf]; omega
    · obtain rfl : k = n := by omega
      have hO := HO.out
      rw [List.take_of_length_le (by rw [HN.out]; exact Nat.le_refl _)] at hO
      have HO := Lib.hid hO
      clear hO
      go_wp2
      go_ret
      exact ⟨_, rfl, HO.out, HB.out⟩
def repT (x : UInt8) (c : Nat) : ByteArray := ⟨(Lib.repeatL [x] c).toArray⟩
theorem bsN_repT (x : UInt8) : ∀ c, bsN (repT x c) = List.replicate c x.toNat
  | 0 => rfl
  | c + 1 => by
    have h := bsN_repT x c
    rw [List.replicate_succ, ← h]
    simp [bsN, repT, Lib.repeatL]
theorem p_repeat (x : UInt8) (c : Nat) (w : World) (hc : c ≤ 1000000) :
    Calls Tryd.prog 30 #[.string ⟨#[x]⟩, .int .i64 (c : Nat)] w fun e w' => e = .returned (.string (repT x c)) ∧ Below w.heap.size w w' :=
  Tryd.strings_Repeat ⟨#[x]⟩ c w (by omega) (by show 1 * c ≤ _; omega)
end Go.Proofs.YtclbjmanmkoikaaDoor
