import Derived.Test.YtaookoejdnkkoaaGreatDoorQNmOneS
import Derived.Test.YtaookoejdnkkoaaGreatDoorQNmZ
import Derived.Test.YtaookoejdnkkoaaGreatDoorQNmSgA
import Derived.Test.YtaookoejdnkkoaaGreatDoorQNmOnce
import Derived.Test.YtaookoejdnkkoaaGreatDoorQ08
import Derived.Test.YtaookoejdnkkoaaGreatDoorQ20
import Derived.Test.YtaookoejdnkkoaaGreatDoorQ22
import Derived.Test.YtaookoejdnkkoaaGreatDoorQ13
namespace Go.Proofs.YtaookoejdnkkoaaGreatDoor
open Go.RowKit

/-! NamesKnown: what its parts share. -/
/-- A block that is known whole. -/
def CL (w : World) (t : TypeId) (g : Nat) (cs : List Value) : Prop := w.heap[g]? = some (.cells cs.toArray t (0, 0))
theorem CL.lt {w : World} {t : TypeId} {g : Nat} {cs : List Value} (h : CL w t g cs) : g < w.heap.size := lt_of_block h
theorem CL.cell {w : World} {t : TypeId} {g : Nat} {cs : List Value} (h : CL w t g cs) (i : Nat) : w.cell? ⟨g, i, none⟩ = cs[i]? := by unfold CL at h; simp [World.cell?, h]
theorem CL.below {w w' : World} {t : TypeId} {g : Nat} {cs : List Value} (h : CL w t g cs) (hb : Below w.heap.size w w') : CL w' t g cs := by
  show _ = _; rw [hb.block _ h.lt]; exact h
theorem CL.new (w : World) (t : TypeId) (cs : List Value) : CL (w.alloc (.cells cs.toArray t)) t w.heap.size cs := heap_new w _
theorem CL.rd {w : World} {t : TypeId} {g : Nat} {l : List Nat} (h : CL w t g (u8s l)) : Rd .u8 w (some ⟨g, 0, none⟩) l := fun j hj => ⟨g, 0, rfl, fun i hi => by
  rw [Nat.zero_add, h.cell]
  simp [u8s, hi, List.getD]⟩

def i64s (l : List Int) : List Value := l.map (Value.int .i64)
theorem i64s_at (l : List Int) (i : Nat) (h : i < l.length) : (i64s l)[i]? = some (.int .i64 l[i]) := by simp [i64s, h]
theorem all_in {l : List Int} {a b : Int} (h : l.all (fun x => decide (a ≤ x) && decide (x ≤ b)) = true) (i : Nat) (hi : i < l.length) : a ≤ l[i] ∧ l[i] ≤ b := by
  have := List.all_eq_true.1 h l[i] (List.getElem_mem hi)
  simpa using this
/-- A list that a law may be asked of. -/
def Lst (w : World) (v : Value) : Prop := ∃ a l c xs, v = .slice a l c ∧ xs.length = l ∧ l ≤ c ∧ (a = none → c = 0) ∧ l ≤ 1048576 ∧ Rd .u64 w a xs ∧ Bd xs
theorem Lst.below {w w' : World} {v : Value} (h : Lst w v) (hb : Below w.heap.size w w') : Lst w' v := by
  obtain ⟨a, l, c, xs, h1, h2, h3, h4, h5, h6, h7⟩ := h
  exact ⟨a, l, c, xs, h1, h2, h3, h4, h5, h6.below hb, h7⟩
theorem lst_nil (w : World) : Lst w (.slice none 0 0) := ⟨none, 0, 0, [], rfl, rfl, Nat.le_refl _, fun _ => rfl, by decide, Rd.nil _ _ _, Bd.nil⟩
theorem lst_own {w : World} {B l c : Nat} {a : Option Addr} {zs : List Nat} (ho : own64 w B (.slice a l c) zs) (hb : Bd zs) (hl : l ≤ 1048576) : Lst w (.slice a l c) :=
  ⟨a, l, c, zs, rfl, (own64.rd ho).1.symm, (own64.room ho).1, (own64.room ho).2, hl, (own64.rd ho).2, hb⟩
theorem lst_1 (w : World) (X : Int) (x g : Nat) (hX : X = (x : Nat)) (hx : x < 18446744073709551616) (hg : w.heap.size = g) : Lst (w.alloc (.cells #[.int .u64 X] 47)) (.slice (some ⟨g, 0, none⟩) 1 1) := by
  subst hX hg
  have hown : own64 (w.alloc (.cells #[.int .u64 (x : Nat)] 47)) w.heap.size (.slice (some ⟨w.heap.size, 0, none⟩) 1 1) [x] :=
    own64_of_blk (zs := [x]) (c := 1) (heap_new w _) (Nat.le_refl _) (by simp) (by decide) rfl ⟨by simp, fun i hi => by
      obtain rfl : i = 0 := by simp at hi; omega
      rfl⟩
  exact lst_own hown (Bd.nil.cons hx) (by decide)
theorem rd_lit8 {w : World} (T : TypeId) (xs : List Nat) (cs : Array Value) (hc : cs = (u8s xs).toArray) : Rd .u8 (w.alloc (.cells cs T)) (some ⟨w.heap.size, 0, none⟩) xs := fun j hj => ⟨w.heap.size, 0, rfl, fun i hi => by
  rw [World.cell?_alloc_at _ _ _ _ rfl, hc]
  simp [u8s, hi, List.getD]⟩
def KeysAt (W : World) (g n : Nat) : Prop := ∀ i, i < n → ∃ a1 l1 c1 a2 l2 c2, W.cell? ⟨g, i * 2, none⟩ = some (.slice a1 l1 c1) ∧ W.cell? ⟨g, i * 2 + 1, none⟩ = some (.slice a2 l2 c2) ∧ Lst W (.slice a1 l1 c1) ∧ Lst W (.slice a2 l2 c2) ∧ l1 ≤ 64 ∧ l2 ≤ 64
theorem KeysAt.below {w w' : World} {g n : Nat} (h : KeysAt w g n) (hb : Below w.heap.size w w') : KeysAt w' g n := fun i hi => by
  obtain ⟨a1, l1, c1, a2, l2, c2, h1, h2, h3, h4, h5⟩ := h i hi
  exact ⟨a1, l1, c1, a2, l2, c2, below_cell hb _ _ h1, below_cell hb _ _ h2, h3.below hb, h4.below hb, h5⟩

/-- Bytes of a call's own, with what is asked of them. -/
def BW8 (w : World) (a : Option Addr) (l c : Nat) (b : List Nat) : Prop := b.length = l ∧ l ≤ c ∧ c ≤ 9223372036854775807 ∧ (a = none → c = 0) ∧ B8 b ∧ Rd .u8 w a b
theorem BW8.below {w w' : World} {a : Option Addr} {l c : Nat} {b : List Nat} (h : BW8 w a l c b) (hb : Below w.heap.size w w') : BW8 w' a l c b :=
  ⟨h.1, h.2.1, h.2.2.1, h.2.2.2.1, h.2.2.2.2.1, h.2.2.2.2.2.below hb⟩
theorem bw_own {w : World} {B : Nat} {a : Option Addr} {l c : Nat} {zs : List Nat} (h : own8 w B (.slice a l c) zs) (hl : zs.length = l) (h8 : B8 zs) : BW8 w a l c zs := by
  obtain ⟨a2, c2, e, h1, h2, h3, h4⟩ := own8_open h
  injection e with e1 e2 e3
  subst e1 e3
  exact ⟨hl, by omega, h4, h3, h8, h2⟩
theorem BW8.hex {w : World} {a : Option Addr} {l c : Nat} {b : List Nat} (h : BW8 w a l c b) (hl : l ≤ 4096) {X : ByteArray} (hX : strN (hexL b) = X) :
    Calls Tryz.prog 45 #[.slice a l c] w fun e w' => e = .returned (.string X) ∧ Below w.heap.size w w' := by
  rw [← hX]; exact rhex_any a l c b w h.1 (by omega) h.2.2.2.2.2 h.2.2.2.2.1
theorem BW8.b64 {w : World} {a : Option Addr} {l c : Nat} {b : List Nat} (h : BW8 w a l c b) (hl : l ≤ 4096) {X : ByteArray} (hX : strN (b64L b) = X) :
    Calls Tryz.prog 51 #[.slice a l c] w fun e w' => e = .returned (.string X) ∧ Below w.heap.size w w' := by
  rw [← hX]; exact rbase64_any a l c b w h.1 (by omega) h.2.2.2.2.2 h.2.2.2.2.1
theorem k_tell {w : World} (s t : ByteArray) (n m : Nat) (hs : s.size = n) (hn : n ≤ 1048576) (ht : t.size = m) (hm : m ≤ 1048576) (hH : HT w) (hB : BT w) :
    Calls Tryz.prog 4 #[.string s, .string t] w fun e w' => e = .returned (.bool true) ∧ Below w.heap.size w w' :=
  namesTell_any s t w (by omega) (by omega) hH hB
theorem enc_b {n e : Nat} {k : Int} {b : List Nat} (h : EncTells n e k b) : B8 b ∧ b.length ≤ 1046 := by
  rcases h with ⟨h1, h2, _, h3⟩ | ⟨_, _, h3⟩
  · exact ⟨h3.b8, (h3.len h1 h2).2⟩
  · subst h3; exact ⟨(fun x hx => by cases hx), (by simp)⟩
/-- A key written. -/
theorem k_enc {w : World} {a1 a2 : Option Addr} {l1 c1 l2 c2 : Nat} (h1 : Lst w (.slice a1 l1 c1)) (h2 : Lst w (.slice a2 l2 c2)) :
    Calls Tryz.prog 44 #[.agg #[.slice a1 l1 c1, .slice a2 l2 c2]] w fun e w' => Below w.heap.size w w' ∧ ∃ a l c k b, e = .returned (.tuple #[.slice a l c, .int .i64 k]) ∧ BW8 w' a l c b ∧ l ≤ 1046 := by
  obtain ⟨a, l, c, xs, e, p1, p2, p3, p4, p5, p6⟩ := h1
  injection e with e1 e2 e3
  subst e1 e2 e3
  obtain ⟨a', l', c', xs', e, q1, q2, q3, q4, q5, q6⟩ := h2
  injection e with e1 e2 e3
  subst e1 e2 e3
  refine (rencode_any a1 l1 c1 xs a2 l2 c2 xs' w p1 p4 p5 p6 q1 q4 q5 q6).mono ?_
  rintro e w' ⟨hb, a, c, k, b, rfl, ho, hQ⟩
  exact ⟨hb, a, _, c, k, b, rfl, bw_own ho rfl (enc_b hQ).1, (enc_b hQ).2⟩
end Go.Proofs.YtaookoejdnkkoaaGreatDoor
