import Derived.Test.YtaookoejdnkkoaaGreatDoorQGA
import Derived.Lib.TrimByte
import Derived.StillTailTactics
namespace Go.Proofs.YtaookoejdnkkoaaGreatDoor
open Go.RowKit

theorem Chg.drewM {S : Nat → Prop} {a w : World} (h : Chg S a w) (n : Nat) : Chg S a (w.drewN n) := ⟨h.os, h.tape, h.output, h.size, h.block⟩
theorem drop_val {xs : List Nat} {k : Nat} (h : k < xs.length) : val (xs.drop k) = at0 xs k + 18446744073709551616 * val (xs.drop (k + 1)) := by
  rw [List.drop_eq_getElem_cons h, val_cons, ← at0_getElem h]

def mk (k i : Int) : Int := bits BinOp.xor IntKind.u64 (IntKind.u64.wrap (IntKind.u64.wrap (wrap64 (k + 1)) * 11400714819323198485)) (IntKind.u64.wrap (IntKind.u64.wrap (wrap64 (i + 1)) * 15074714826142052245))

set_option maxHeartbeats 400000 in
theorem mark_any (k i : Int) (w : World) :
    Calls Tryz.prog 48 #[.int .i64 k, .int .i64 i] w fun e w' => e = .returned (.int .u64 (mk k i)) ∧ w = w' := by
  go_enter Tryz.func48, Tryz.ntmps48
  go_wp2
  go_ret
  exact ⟨rfl, rfl⟩

def u8s (xs : List Nat) : List Value := xs.map fun (x : Nat) => Value.int .u8 x
theorem u8s_len (xs : List Nat) : (u8s xs).length = xs.length := by simp [u8s]

theorem book_set {w : World} {bk : Nat} {x y u : Value} {T : TypeId} (h : w.heap[bk]? = some (.cells #[x, y] T (0, 0))) :
    (w.setCell ⟨bk, 0, none⟩ u).heap[bk]? = some (.cells #[u, y] T (0, 0)) := by
  simp [World.setCell, Array.getElem?_modify, h]
theorem book_set1 {w : World} {bk : Nat} {x y u : Value} {T : TypeId} (h : w.heap[bk]? = some (.cells #[x, y] T (0, 0))) :
    (w.setCell ⟨bk, 1, none⟩ u).heap[bk]? = some (.cells #[x, u] T (0, 0)) := by
  simp [World.setCell, Array.getElem?_modify, h]

set_option maxHeartbeats 400000 in
theorem bookWords_any (bk B n : Nat) (vw vb : Value) (L : List Value) (va : Option Addr) (vn vc : Nat) (w : World) (T : TypeId) (hbk : w.heap[bk]? = some (.cells #[vw, vb] T (0, 0))) (hown : w.ownsRow B 23 1 vw n L) (hne : vw.ownBlock ≠ some bk) (hn : n + 1 ≤ 1099511627776)
    (hB : B ≤ w.heap.size) :
    Calls Tryz.prog 47 #[.pointer (some ⟨bk, 0, none⟩), .slice va vn vc] w fun e w' => e = .returned (.tuple #[]) ∧
      ∃ g cap, w'.heap[bk]? = some (.cells #[.slice (some ⟨g, 0, none⟩) (n + 1) cap, vb] T (0, 0)) ∧ w'.ownsRow B 23 1 (.slice (some ⟨g, 0, none⟩) (n + 1) cap) (n + 1) (L ++ [.slice va vn vc]) ∧
        Chg (fun k => k = bk ∨ some k = vw.ownBlock) w w' ∧ (vw.ownBlock = some g ∨ w.heap.size ≤ g) := by
  have hc0 : w.cell? ⟨bk, 0, none⟩ = some vw := by simp [World.cell?, hbk]
  have hlt := lt_of_block hbk
  go_enter Tryz.func47, Tryz.ntmps47
  go_wp2_with (at_builtin; refine wpl_app 35 23 Tryz.underlying35 infoL64 rfl (by decide) rfl _ _ rfl B vw n L rfl (hown.alloc _) w.heap.size (.slice va vn vc) rfl (World.cell?_alloc_at _ _ _ _ rfl) rfl (by omega) (by simp; omega) ?_)
  intro g cap' w1 hown1 hg1 hBg hgl hgo
  have C1 : Chg (fun k => some k = vw.ownBlock) w w1 := ((Chg.refl _ _).alloc _).trans (Chg.of_grown hg1)
  have hbk1 := C1.heap hbk (fun e => hne e.symm)
  have hc1 : w1.cell? ⟨bk, 0, none⟩ = some vw := by simp [World.cell?, hbk1]
  have hf1 : w1.frozen? ⟨bk, 0, none⟩ = false := by simp [World.frozen?, hbk1]
  have HO := Lib.hid hown1
  have HG := Lib.hid hg1
  clear hown1 hg1
  go_wp2
  refine bodyPost_end (results_none rfl _ _ _) rfl ⟨rfl, g, cap', book_set hbk1, Chg.owns ((Chg.refl (fun k => k = bk) _).setCell rfl _) HO.out ?_, (C1.mono (fun i h _ => .inr h)).setCell (.inl rfl) _, ?_⟩
  · intro k hk e
    obtain rfl : g = k := by simpa [Value.ownBlock] using hk
    subst e
    rcases hgo with h | h
    · exact hne h
    · omega
  · rcases hgo with h | h
    · exact .inl h
    · right; omega
set_option maxHeartbeats 400000 in
theorem bookBytes_any (bk B n : Nat) (vw vb : Value) (L : List Value) (va : Option Addr) (vn vc : Nat) (w : World) (T : TypeId) (hbk : w.heap[bk]? = some (.cells #[vw, vb] T (0, 0))) (hown : w.ownsRow B 40 1 vb n L) (hne : vb.ownBlock ≠ some bk) (hn : n + 1 ≤ 1099511627776)
    (hB : B ≤ w.heap.size) :
    Calls Tryz.prog 23 #[.pointer (some ⟨bk, 0, none⟩), .slice va vn vc] w fun e w' => e = .returned (.tuple #[]) ∧
      ∃ g cap, w'.heap[bk]? = some (.cells #[vw, .slice (some ⟨g, 0, none⟩) (n + 1) cap] T (0, 0)) ∧ w'.ownsRow B 40 1 (.slice (some ⟨g, 0, none⟩) (n + 1) cap) (n + 1) (L ++ [.slice va vn vc]) ∧
        Chg (fun k => k = bk ∨ some k = vb.ownBlock) w w' ∧ (vb.ownBlock = some g ∨ w.heap.size ≤ g) := by
  have hc0 : w.cell? ⟨bk, 1, none⟩ = some vb := by simp [World.cell?, hbk]
  have hlt := lt_of_block hbk
  go_enter Tryz.func23, Tryz.ntmps23
  go_wp2_with (at_builtin; refine wpl_app 36 40 Tryz.underlying36 infoL8 rfl (by decide) rfl _ _ rfl B vb n L rfl (hown.alloc _) w.heap.size (.slice va vn vc) rfl (World.cell?_alloc_at _ _ _ _ rfl) rfl (by omega) (by simp; omega) ?_)
  intro g cap' w1 hown1 hg1 hBg hgl hgo
  have C1 : Chg (fun k => some k = vb.ownBlock) w w1 := ((Chg.refl _ _).alloc _).trans (Chg.of_grown hg1)
  have hbk1 := C1.heap hbk (fun e => hne e.symm)
  have hc1 : w1.cell? ⟨bk, 1, none⟩ = some vb := by simp [World.cell?, hbk1]
  have hf1 : w1.frozen? ⟨bk, 1, none⟩ = false := by simp [World.frozen?, hbk1]
  have HO := Lib.hid hown1
  have HG := Lib.hid hg1
  clear hown1 hg1
  go_wp2
  refine bodyPost_end (results_none rfl _ _ _) rfl ⟨rfl, g, cap', book_set1 hbk1, Chg.owns ((Chg.refl (fun k => k = bk) _).setCell rfl _) HO.out ?_, (C1.mono (fun i h _ => .inr h)).setCell (.inl rfl) _, ?_⟩
  · intro k hk e
    obtain rfl : g = k := by simpa [Value.ownBlock] using hk
    subst e
    rcases hgo with h | h
    · exact hne h
    · omega
  · rcases hgo with h | h
    · exact .inl h
    · right; omega

def updR (r : Nat → Rw) (p : Nat) (x : Rw) : Nat → Rw := fun i => if i = p then x else r i
theorem updR_same (r : Nat → Rw) (p : Nat) (x : Rw) : updR r p x p = x := by simp [updR]
theorem updR_ne (r : Nat → Rw) {p i : Nat} (x : Rw) (h : i ≠ p) : updR r p x i = r i := by simp [updR, h]

/-- Rows by numbers, each in a block of its own. -/
structure Fam (w : World) (B m : Nat) (r : Nat → Rw) : Prop where
  own : ∀ i, i < m → w.ownsRow B (r i).E 1 (r i).v (r i).n (r i).xs
  apart : ∀ i, i < m → ∀ j, j < m → i ≠ j → (r i).apart (r j)

theorem Sep.fam {w : World} {B : Nat} {R : List Rw} (d : Rw) (h : Sep w B R) : Fam w B R.length (fun i => R.getD i d) := by
  refine ⟨fun i hi => ?_, fun i hi j hj hne => ?_⟩
  · simp only [List.getD, List.getElem?_eq_getElem hi, Option.getD_some]; exact h.1 _ (List.getElem_mem hi)
  · simp only [List.getD, List.getElem?_eq_getElem hi, List.getElem?_eq_getElem hj, Option.getD_some]
    rcases Nat.lt_or_gt_of_ne hne with hlt | hlt
    · exact List.pairwise_iff_getElem.1 h.2 i j hi hj hlt
    · exact (List.pairwise_iff_getElem.1 h.2 j i hj hi hlt).symm

theorem Fam.put {w w' : World} {B m p : Nat} {r : Nat → Rw} {x : Rw} (h : Fam w B m r) (hp : p < m) (hc : Chg (fun k => some k = (r p).v.ownBlock) w w') (ho : w'.ownsRow B x.E 1 x.v x.n x.xs)
    (hb : ∀ k, x.v.ownBlock = some k → (r p).v.ownBlock = some k ∨ w.heap.size ≤ k) : Fam w' B m (updR r p x) := by
  have key : ∀ i, i < m → i ≠ p → x.apart (r i) := by
    intro i hi hne k hk hk'
    rcases hb k hk with hb | hb
    · exact h.apart p hp i hi (Ne.symm hne) k hb hk'
    · have := (h.own i hi).lt k hk'; omega
  refine ⟨fun i hi => ?_, fun i hi j hj hne => ?_⟩
  · by_cases e : i = p
    · subst e; rw [updR_same]; exact ho
    · rw [updR_ne _ _ e]; exact hc.owns (h.own i hi) (fun k hk e' => h.apart p hp i hi (Ne.symm e) k e'.symm hk)
  · by_cases e : i = p
    · subst e; rw [updR_same, updR_ne _ _ (Ne.symm hne)]; exact key j hj (Ne.symm hne)
    · by_cases e2 : j = p
      · subst e2; rw [updR_same, updR_ne _ _ e]; exact (key i hi e).symm
      · rw [updR_ne _ _ e, updR_ne _ _ e2]; exact h.apart i hi j hj hne

theorem Fam.chg {w w' : World} {B m : Nat} {r : Nat → Rw} {S : Nat → Prop} (h : Fam w B m r) (hc : Chg S w w') (hS : ∀ i, i < m → ∀ k, (r i).v.ownBlock = some k → ¬ S k) : Fam w' B m r :=
  ⟨fun i hi => hc.owns (h.own i hi) (hS i hi), h.apart⟩

/-- A store into row p. -/
theorem Fam.store {w : World} {B m p g n c : Nat} {r : Nat → Rw} (h : Fam w B m r) (hp : p < m) (hv : (r p).v = .slice (some ⟨g, 0, none⟩) n c) (hn : (r p).n = n) (j : Nat) (u : Value) :
    Fam (w.setCell ⟨g, j, none⟩ u) B m (updR r p { r p with xs := (r p).xs.set j u }) := by
  have ho := h.own p hp
  rw [hv, hn] at ho
  refine h.put hp ((Chg.refl _ _).setCell (p := ⟨g, j, none⟩) (by rw [hv]; rfl) u) ?_ (fun k hk => .inl hk)
  show World.ownsRow _ B (r p).E 1 (r p).v (r p).n _
  rw [hv, hn]
  exact (ho.stored j u).1

theorem Fam.cellAt {w : World} {B m p g n c : Nat} {r : Nat → Rw} (h : Fam w B m r) (hp : p < m) (hv : (r p).v = .slice (some ⟨g, 0, none⟩) n c) (hn : (r p).n = n) (j : Nat) (hj : j < n) :
    w.cell? ⟨g, j, none⟩ = (r p).xs[j]? := by
  have ho := h.own p hp
  rw [hv, hn] at ho
  exact ho.cellAt j (by omega)
theorem Fam.frozenAt {w : World} {B m p g n c : Nat} {r : Nat → Rw} (h : Fam w B m r) (hp : p < m) (hv : (r p).v = .slice (some ⟨g, 0, none⟩) n c) (hn : (r p).n = n) (j : Nat) :
    w.frozen? ⟨g, j, none⟩ = false := by
  have ho := h.own p hp
  rw [hv, hn] at ho
  exact ho.frozenAt j
/-- A row of one element or more lies in a block. -/
theorem owns_some {w : World} {B E n : Nat} {v : Value} {xs : List Value} (h : w.ownsRow B E 1 v n xs) (hn : 0 < n) : ∃ g c, v = .slice (some ⟨g, 0, none⟩) n c ∧ B ≤ g ∧ g < w.heap.size := by
  rcases h.2 with ⟨_, h0⟩ | ⟨g, c, cur, rfl, hb, hg, _⟩
  · omega
  · exact ⟨g, c, rfl, hb, lt_of_block hg⟩
theorem owns_form {w : World} {B E n : Nat} {v : Value} {xs : List Value} (h : w.ownsRow B E 1 v n xs) : ∃ a c, v = .slice a n c := by
  rcases h.2 with ⟨rfl, rfl⟩ | ⟨g, c, cur, rfl, hb, hg, _⟩
  · exact ⟨_, _, rfl⟩
  · exact ⟨_, _, rfl⟩

theorem mark_q (k i : Int) (w : World) :
    Calls Tryz.prog 48 #[.int .i64 k, .int .i64 i] w fun e w' => e = .returned (.int .u64 (mk k i)) ∧ w' = w := (mark_any k i w).mono fun _ _ ⟨h, k⟩ => ⟨h, k.symm⟩

def ms64 (k n : Nat) : List Value := (List.range n).map fun (j : Nat) => Value.int .u64 (mk k j)
def ms8 (k n : Nat) : List Value := (List.range n).map fun (j : Nat) => Value.int .u8 (IntKind.u8.wrap (mk k j))

theorem own64_nil (w : World) (B : Nat) : own64 w B (.slice none 0 0) [] := World.ownsRow_nil _ _ _ _
def v32 : List Nat → Nat
  | [] => 0
  | x :: xs => x + 4294967296 * v32 xs
def Hd (xs : List Nat) : Prop := ∀ x ∈ xs, x < 4294967296
theorem Hd.tail {x : Nat} {xs : List Nat} (h : Hd (x :: xs)) : Hd xs := fun y hy => h y (List.mem_cons_of_mem _ hy)
theorem Hd.head {x : Nat} {xs : List Nat} (h : Hd (x :: xs)) : x < 4294967296 := h x (List.mem_cons_self ..)
theorem Hd.cons {x : Nat} {xs : List Nat} (hx : x < 4294967296) (h : Hd xs) : Hd (x :: xs) := fun y hy => by
  rcases List.mem_cons.1 hy with rfl | hy
  · exact hx
  · exact h y hy
theorem Hd.nil : Hd [] := fun _ h => by cases h
theorem Hd.append {xs ys : List Nat} (h : Hd xs) (k : Hd ys) : Hd (xs ++ ys) := fun y hy => by
  rcases List.mem_append.1 hy with hy | hy
  · exact h y hy
  · exact k y hy
theorem Hd.take {xs : List Nat} (h : Hd xs) (n : Nat) : Hd (xs.take n) := fun y hy => h y (List.mem_of_mem_take hy)
theorem Hd.drop {xs : List Nat} (h : Hd xs) (n : Nat) : Hd (xs.drop n) := fun y hy => h y (List.mem_of_mem_drop hy)
theorem Hd.at0 {xs : List Nat} (h : Hd xs) (i : Nat) : at0 xs i < 4294967296 := by
  unfold Go.Proofs.YtaookoejdnkkoaaGreatDoor.at0 List.getD
  by_cases hi : i < xs.length
  · rw [List.getElem?_eq_getElem hi]; exact h _ (List.getElem_mem hi)
  · rw [List.getElem?_eq_none (by omega)]; decide
theorem v32_cons (x : Nat) (xs : List Nat) : v32 (x :: xs) = x + 4294967296 * v32 xs := rfl
theorem v32_append (xs ys : List Nat) : v32 (xs ++ ys) = v32 xs + 4294967296 ^ xs.length * v32 ys := by
  induction xs with
  | nil => simp [v32]
  | cons x xs ih => simp only [List.cons_append, v32_cons, ih, List.length_cons, Nat.pow_succ, Nat.mul_add]; rw [show 4294967296 ^ xs.length * 4294967296 * v32 ys = 4294967296 * (4294967296 ^ xs.length * v32 ys) from by rw [Nat.mul_comm (4294967296 ^ xs.length), Nat.mul_assoc]]; omega
theorem v32_lt {xs : List Nat} (h : Hd xs) : v32 xs < 4294967296 ^ xs.length := by
  induction xs with
  | nil => simp [v32]
  | cons x xs ih => have h1 := h.head; have h2 := ih h.tail; simp only [v32_cons, List.length_cons, Nat.pow_succ]; omega
theorem v32_zeros {xs : List Nat} (h : ∀ i, i < xs.length → at0 xs i = 0) : v32 xs = 0 := by
  induction xs with
  | nil => rfl
  | cons x xs ih =>
    have h0 : x = 0 := by simpa [at0_cons_zero] using h 0 (by simp)
    have := ih (fun i hi => by simpa [at0_cons_succ] using h (i + 1) (by simpa using hi))
    rw [v32_cons, h0, this]
theorem fm_v32 (xs : List Nat) : v32 (fm xs) = v32 xs := by
  have h : xs = fm xs ++ xs.drop (fl xs) := (List.take_append_drop _ _).symm
  have hz : v32 (xs.drop (fl xs)) = 0 := v32_zeros (fun i _ => by rw [at0_drop]; exact (fl_spec xs).2.1 _ (by omega))
  rw (config := { occs := .pos [2] }) [h]
  rw [v32_append, hz]; simp
theorem fm_hd {xs : List Nat} (h : Hd xs) : Hd (fm xs) := h.take _
theorem cn_v32_pos {xs : List Nat} (h : Cn xs) (h0 : 0 < xs.length) : 0 < v32 xs := by
  induction xs with
  | nil => simp at h0
  | cons x xs ih =>
    rw [v32_cons]
    by_cases h1 : 0 < xs.length
    · have := ih h.tail h1; omega
    · have hx := h (by simp)
      have : xs = [] := List.eq_nil_of_length_eq_zero (by omega)
      subst this
      simp [at0_cons_zero] at hx
      omega
theorem form32_unique {xs ys : List Nat} (hx : Hd xs) (hy : Hd ys) (cx : Cn xs) (cy : Cn ys) (h : v32 xs = v32 ys) : xs = ys := by
  induction xs generalizing ys with
  | nil =>
    cases ys with
    | nil => rfl
    | cons y ys => have := cn_v32_pos cy (by simp); simp only [v32] at h; simp only [v32_cons] at this; omega
  | cons x xs ih =>
    cases ys with
    | nil => have := cn_v32_pos cx (by simp); simp only [v32] at h; simp only [v32_cons] at this; omega
    | cons y ys =>
      have h1 := hx.head
      have h2 := hy.head
      simp only [v32_cons] at h
      obtain rfl : x = y := by omega
      rw [ih hx.tail hy.tail cx.tail cy.tail (by omega)]
structure Num32 (zs : List Nat) (n : Nat) : Prop where
  bd : Hd zs
  cn : Cn zs
  vl : v32 zs = n
theorem Num32.unique {xs ys : List Nat} {n : Nat} (h : Num32 xs n) (k : Num32 ys n) : xs = ys := form32_unique h.bd k.bd h.cn k.cn (h.vl.trans k.vl.symm)
theorem num32_fm {xs : List Nat} (h : Hd xs) : Num32 (fm xs) (v32 xs) := ⟨fm_hd h, fm_cn xs, fm_v32 xs⟩
theorem Num32.nil : Num32 [] 0 := ⟨Hd.nil, fun h => by simp at h, rfl⟩
theorem Num32.len_le {zs : List Nat} {n k : Nat} (h : Num32 zs n) : zs.length ≤ k ↔ n < 4294967296 ^ k := by
  constructor
  · intro hk
    rw [← h.vl]
    exact Nat.lt_of_lt_of_le (v32_lt h.bd) (Nat.pow_le_pow_right (by decide) hk)
  · intro hn
    refine Nat.le_of_not_lt fun hk => ?_
    have hpos : 0 < zs.length := by omega
    have hs : zs = zs.take (zs.length - 1) ++ [at0 zs (zs.length - 1)] := by
      rw [← take_succ_at0 (by omega), show zs.length - 1 + 1 = zs.length by omega, List.take_length]
    have hv := h.vl
    rw [hs, v32_append, List.length_take, Nat.min_eq_left (by omega)] at hv
    have hc := h.cn hpos
    have h2 : 4294967296 ^ k ≤ 4294967296 ^ (zs.length - 1) := Nat.pow_le_pow_right (by decide) (by omega)
    have h3 : 4294967296 ^ (zs.length - 1) * 1 ≤ 4294967296 ^ (zs.length - 1) * v32 [at0 zs (zs.length - 1)] := Nat.mul_le_mul_left _ (by simp only [v32]; omega)
    omega
theorem Num32.len_lt {zs : List Nat} {n k : Nat} (h : Num32 zs n) : k < zs.length ↔ 4294967296 ^ k ≤ n := by
  have := h.len_le (k := k); omega
theorem v32_snoc (xs : List Nat) (z : Nat) : v32 (xs ++ [z]) = v32 xs + 4294967296 ^ xs.length * z := by
  rw [v32_append]; simp [v32]
theorem take_v32_snoc {xs : List Nat} {k : Nat} (h : k < xs.length) : v32 (xs.take (k + 1)) = v32 (xs.take k) + 4294967296 ^ k * at0 xs k := by
  rw [take_succ_at0 h, v32_snoc, List.length_take, Nat.min_eq_left (by omega)]
theorem Hd.snoc {zs : List Nat} {z : Nat} (h : Hd zs) (hz : z < 4294967296) : Hd (zs ++ [z]) := h.append (Hd.nil.cons hz)
theorem v32_at (xs : List Nat) (k : Nat) (h : k < xs.length) : v32 xs = v32 (xs.take k) + 4294967296 ^ k * (at0 xs k + 4294967296 * v32 (xs.drop (k + 1))) := by
  have h1 : xs = xs.take k ++ (at0 xs k :: xs.drop (k + 1)) := by
    rw [at0_getElem h, ← List.drop_eq_getElem_cons h, List.take_append_drop]
  rw (config := { occs := .pos [1] }) [h1]
  rw [v32_append, List.length_take, Nat.min_eq_left (by omega), v32_cons]
theorem Hd.bd {xs : List Nat} (h : Hd xs) : Bd xs := fun x hx => Nat.lt_trans (h x hx) (by decide)

set_option maxHeartbeats 400000 in
theorem strip_any (a : Option Addr) (len cap : Nat) (xs : List Nat) (w : World) (hl : xs.length = len) (hbig : len ≤ 1099511627776) (hcap : len ≤ cap) (h0 : a = none → cap = 0) (hr : Rd .u64 w a xs) :
    Calls Tryz.prog 124 #[.slice a len cap] w fun e w' => e = .returned (.slice a (fl xs) cap) ∧ w = w' := by
  go_enter Tryz.func124, Tryz.ntmps124
  go_wp2
  go_loop [3] (fun v => ∃ n : Nat, n ≤ len ∧ v = .int .i64 n ∧ Hid (∀ i, n ≤ i → i < xs.length → at0 xs i = 0)) (fun v => (intOf v).toNat)
  case atStart => exact ⟨len, Nat.le_refl _, rfl, fun i h1 h2 => by omega⟩
  case round =>
    obtain ⟨n, hn, rfl, hz⟩ := hrel
    by_cases h0' : n = 0
    · subst h0'
      have hf := Lib.hid (show 0 = fl xs from fl_unique (Nat.zero_le _) hz.out (fun h => by omega))
      cases a with
      | none =>
        obtain rfl := h0 rfl
        go_wp2
        go_ret
        exact ⟨by rw [← hf.out]; rfl, rfl⟩
      | some p =>
        go_wp2
        go_ret
        exact ⟨by rw [← hf.out]; rfl, rfl⟩
    · obtain ⟨b, off, rfl⟩ := hr.isAt (by omega)
      have hcell := hr.cell (i := n - 1) (by omega)
      obtain ⟨m, rfl⟩ : ∃ m, n = m + 1 := ⟨n - 1, by omega⟩
      rw [Nat.add_sub_cancel] at hcell
      generalize hx0 : at0 xs m = x at hcell
      have hx := Lib.hid hx0
      clear hx0 hr h0
      by_cases hx1 : x = 0
      · subst hx1
        go_wp2
        go_round
        case rel => exact ⟨m, by omega, by go_num, fun i h1 h2 => by rcases Nat.eq_or_lt_of_le h1 with rfl | h; exact hx.out; exact hz.out i h h2⟩
        case measure => simp [intOf]
      · have hf : m + 1 = fl xs := fl_unique (by omega) hz.out (fun _ => by rw [Nat.add_sub_cancel, hx.out]; exact hx1)
        have HF := Lib.hid hf
        clear hf
        go_wp2
        go_ret
        exact ⟨by rw [← HF.out]; rfl, rfl⟩

theorem or32 (x y : Nat) (hx : x < 4294967296) (hy : y < 4294967296) : bits BinOp.or IntKind.u64 (x : Int) ((y : Int) * 4294967296) = ((x + y * 4294967296 : Nat) : Int) := by
  have h1 : (BitVec.ofInt 64 (x : Int)).toNat = x := by
    rw [BitVec.ofInt_natCast, BitVec.toNat_ofNat]; exact Nat.mod_eq_of_lt (by omega)
  have e : (y : Int) * 4294967296 = ((y * 4294967296 : Nat) : Int) := by omega
  have h2 : (BitVec.ofInt 64 ((y * 4294967296 : Nat) : Int)).toNat = y * 4294967296 := by
    rw [BitVec.ofInt_natCast, BitVec.toNat_ofNat]; exact Nat.mod_eq_of_lt (by omega)
  rw [e]
  show IntKind.u64.wrap ((BitVec.ofInt 64 (x : Int) ||| BitVec.ofInt 64 ((y * 4294967296 : Nat) : Int)).toNat : Int) = _
  rw [BitVec.toNat_or, h1, h2, Nat.or_comm, show y * 4294967296 = 2 ^ 32 * y by omega, ← Nat.two_pow_add_eq_or_of_lt (by omega), IntKind.wrap_u64]
  omega
theorem pow_pair (k : Nat) : 4294967296 ^ (2 * k) = 18446744073709551616 ^ k := by rw [Nat.pow_mul]
/-- A row that is read: with room behind it. -/
theorem own64.room {w : World} {B : Nat} {a : Option Addr} {n c : Nat} {zs : List Nat} (h : own64 w B (.slice a n c) zs) : n ≤ c ∧ (a = none → c = 0) := by
  rcases h.2 with ⟨hv, h0⟩ | ⟨g, c1, cur, hv, hb, hg, hn, _⟩
  · simp only [Value.slice.injEq] at hv; exact ⟨by omega, fun _ => hv.2.2⟩
  · simp only [Value.slice.injEq] at hv; exact ⟨by omega, fun h => by rw [h] at hv; simp at hv⟩

theorem own64_snoc {w : World} {B k z : Nat} {v : Value} {A : Int} {zs : List Nat} (h : w.ownsRow B 47 1 v (k + 1) (u64s zs ++ [.int .u64 A])) (hk : zs.length = k) (e : A = (z : Nat)) : own64 w B v (zs ++ [z]) := by
  unfold own64
  rw [u64s_append, List.length_append, hk, ← (show [Value.int .u64 A] = u64s [z] by rw [e]; rfl)]
  exact h
theorem own64.row {w : World} {B k : Nat} {v : Value} {zs : List Nat} (h : own64 w B v zs) (hk : zs.length = k) : w.ownsRow B 47 1 v k (u64s zs) := by
  unfold own64 at h; rw [hk] at h; exact h
theorem val_odd {zs hs : List Nat} {k x : Nat} (hz : zs.length = k) (hv : val zs = v32 (hs.take (2 * k))) (h1 : v32 (hs.take (2 * k + 1)) = v32 (hs.take (2 * k)) + 4294967296 ^ (2 * k) * x)
    (hl : hs.length ≤ 2 * k + 1) (hl2 : hs.length ≤ 2 * (k + 1)) : val (zs ++ [x]) = v32 (hs.take (2 * (k + 1))) := by
  rw [List.take_of_length_le hl] at h1
  rw [List.take_of_length_le hl2, h1, val_snoc, hz, hv, pow_pair]
theorem val_pair {zs hs : List Nat} {k x y : Nat} (hz : zs.length = k) (hv : val zs = v32 (hs.take (2 * k))) (h1 : v32 (hs.take (2 * k + 1)) = v32 (hs.take (2 * k)) + 4294967296 ^ (2 * k) * x)
    (h2 : v32 (hs.take (2 * k + 1 + 1)) = v32 (hs.take (2 * k + 1)) + 4294967296 ^ (2 * k + 1) * y) : val (zs ++ [x + y * 4294967296]) = v32 (hs.take (2 * (k + 1))) := by
  rw [show 2 * (k + 1) = 2 * k + 1 + 1 by omega, h2, h1, val_snoc, hz, hv, Nat.pow_succ, pow_pair, Nat.mul_add]
  rw [show 18446744073709551616 ^ k * (y * 4294967296) = 18446744073709551616 ^ k * 4294967296 * y by rw [Nat.mul_comm y, Nat.mul_assoc]]
  omega

set_option maxHeartbeats 1000000 in
set_option maxRecDepth 100000 in
theorem limbs_any (a : Option Addr) (len cap : Nat) (hs : List Nat) (w : World) (hl : hs.length = len) (hbig : len ≤ 1099511627776) (hr : Rd .u64 w a hs) (hh : Hd hs) :
    Calls Tryz.prog 149 #[.slice a len cap] w fun e w' => ∃ v zs, e = .returned v ∧ own64 w' w.heap.size v zs ∧ Num zs (v32 hs) ∧ Below w.heap.size w w' := by
  go_enter Tryz.func149, Tryz.ntmps149
  go_wp2
  go_loopw [3, 4] (fun v i wr => ∃ (k : Nat) (zs : List Nat), 2 * k ≤ len + 1 ∧ i = .int .i64 ((2 * k : Nat) : Int) ∧ Hid (own64 wr w.heap.size v zs) ∧ zs.length = k ∧ Hid (Bd zs) ∧ Hid (val zs = v32 (hs.take (2 * k))) ∧ Below w.heap.size w wr) (fun _ i _ => len + 2 - (intOf i).toNat)
  case atStart => exact ⟨0, [], by omega, rfl, own64_nil _ _, rfl, Bd.nil, by show _ = _; simp [val, v32], Below.refl _ _⟩
  case round =>
    obtain ⟨k, zs, hk, rfl, HO, hzk, HB, HV, hbl⟩ := hrel
    have hsz := hbl.size
    by_cases hlt : 2 * k < len
    · obtain ⟨b, off, rfl⟩ := hr.isAt (by omega)
      have hc1 := below_cell hbl _ _ (hr.cell (i := 2 * k) (by omega))
      have hb1 : at0 hs (2 * k) < 4294967296 := hh.at0 _
      have HX : Hid (v32 (hs.take (2 * k + 1)) = v32 (hs.take (2 * k)) + 4294967296 ^ (2 * k) * at0 hs (2 * k)) := take_v32_snoc (by omega)
      have hown : wr.ownsRow w.heap.size 47 1 u3 k (u64s zs) := by have := HO.out; unfold own64 at this; rw [hzk] at this; exact this
      have HZ := Lib.hid hzk
      clear hzk
      by_cases hlt2 : 2 * k + 1 < len
      · have hc2 := below_cell hbl _ _ (hr.cell (i := 2 * k + 1) (by omega))
        have hb2 : at0 hs (2 * k + 1) < 4294967296 := hh.at0 _
        have HY : Hid (v32 (hs.take (2 * k + 1 + 1)) = v32 (hs.take (2 * k + 1)) + 4294967296 ^ (2 * k + 1) * at0 hs (2 * k + 1)) := take_v32_snoc (by omega)
        generalize at0 hs (2 * k) = x at *
        generalize at0 hs (2 * k + 1) = y at *
        have ho := or32 x y hb1 hb2
        have hq : decide (2 * (k : Int) + 1 < (len : Int)) = true := by simp; omega
        go_wp2_with (at_builtin; refine wpl_app 23 47 Tryz.underlying23 info64 rfl (by decide) rfl _ _ rfl w.heap.size _ k (u64s zs) rfl (hown.alloc _) wr.heap.size _ rfl (World.cell?_alloc_at _ _ _ _ rfl) rfl (by omega) (by simp; omega) ?_)
        intro g cap' w1 hown1 hg1 hBg hgl hgo
        have HO1 := Lib.hid hown1
        have hbl1 : Below w.heap.size w w1 := (hbl.alloc (by omega) _).grown hg1 (by simp; omega) (fun j hj => (hown.lt j hj).1)
        clear hown1 hg1 hgo hown
        go_wp2
        go_roundw
        case rel =>
          refine ⟨k + 1, zs ++ [x + y * 4294967296], by omega, by go_num, own64_snoc HO1.out HZ.out (by omega), by have := HZ.out; simp; omega, HB.out.snoc (by omega), ?_, hbl1⟩
          exact val_pair HZ.out HV.out HX.out HY.out
        case measure => simp [intOf]; omega
      · generalize at0 hs (2 * k) = x at *
        have hq : decide (2 * (k : Int) + 1 < (len : Int)) = false := by simp; omega
        go_wp2_with (at_builtin; refine wpl_app 23 47 Tryz.underlying23 info64 rfl (by decide) rfl _ _ rfl w.heap.size _ k (u64s zs) rfl (hown.alloc _) wr.heap.size _ rfl (World.cell?_alloc_at _ _ _ _ rfl) rfl (by omega) (by simp; omega) ?_)
        intro g cap' w1 hown1 hg1 hBg hgl hgo
        have HO1 := Lib.hid hown1
        have hbl1 : Below w.heap.size w w1 := (hbl.alloc (by omega) _).grown hg1 (by simp; omega) (fun j hj => (hown.lt j hj).1)
        clear hown1 hg1 hgo hown
        go_wp2
        go_roundw
        case rel =>
          refine ⟨k + 1, zs ++ [x], by omega, by go_num, own64_snoc HO1.out HZ.out rfl, by have := HZ.out; simp; omega, HB.out.snoc (by omega), ?_, hbl1⟩
          exact val_odd HZ.out HV.out HX.out (by omega) (by omega)
        case measure => simp [intOf]; omega
    · obtain ⟨a', c', rfl, hrd⟩ := own64.form HO.out
      obtain ⟨hroom, hnone⟩ := own64.room HO.out
      have HN := Lib.hid hnone
      have hrow := num_fm HB.out
      rw [HV.out, List.take_of_length_le (show hs.length ≤ 2 * k by omega)] at hrow
      have HR := Lib.hid hrow
      clear hnone hrow
      go_wp2_with fail
      refine (strip_any a' k c' zs _ hzk (by omega) (by omega) HN.out hrd).mono ?_
      rintro e w1 ⟨rfl, rfl⟩
      go_wp2
      go_ret
      refine ⟨_, fm zs, rfl, ?_, HR.out, hbl⟩
      have hfl := fl_spec zs
      refine ⟨by rw [u64s_len, fm_length]; omega, ?_⟩
      rcases HO.out.2 with ⟨hv, h0⟩ | ⟨g, c1, cur, hv, hb, hg, hn, hm, hss, ht⟩
      · simp only [Value.slice.injEq] at hv
        obtain ⟨rfl, _, rfl⟩ := hv
        have : fl zs = 0 := by omega
        refine .inl ⟨?_, by rw [fm_length]; exact this⟩
        show Value.slice none (fl zs) 0 = _
        rw [this]
      · simp only [Value.slice.injEq] at hv
        obtain ⟨rfl, _, rfl⟩ := hv
        refine .inr ⟨g, c', cur, by rw [fm_length]; rfl, hb, hg, by rw [fm_length]; omega, hm, hss, ?_⟩
        have h2 : (cur.toList.take (zs.length * 1)).take (fl zs) = (u64s zs).take (fl zs) := by rw [ht]
        rw [List.take_take, Nat.min_eq_left (by omega)] at h2
        rw [fm_length, Nat.mul_one, h2]
        simp [u64s, fm, List.map_take]

theorem own64.set {w : World} {B g n c : Nat} {zs : List Nat} (h : own64 w B (.slice (some ⟨g, 0, none⟩) n c) zs) (j x : Nat) : own64 (w.setCell ⟨g, j, none⟩ (.int .u64 (x : Nat))) B (.slice (some ⟨g, 0, none⟩) n c) (zs.set j x) := by
  have hn : n = zs.length := (own64.rd h).1
  subst hn
  unfold own64 at h ⊢
  rw [← u64s_set, List.length_set]
  exact (World.ownsRow.stored h j _).1
theorem own64.cell {w : World} {B g n c : Nat} {zs : List Nat} (h : own64 w B (.slice (some ⟨g, 0, none⟩) n c) zs) {j : Nat} (hj : j < zs.length) : w.cell? ⟨g, j, none⟩ = some (.int .u64 (at0 zs j : Nat)) := by
  have hn : n = zs.length := (own64.rd h).1
  subst hn
  rw [World.ownsRow.cellAt h j (by omega), u64s_get _ _ hj]
theorem own64.free {w : World} {B g n c : Nat} {zs : List Nat} (h : own64 w B (.slice (some ⟨g, 0, none⟩) n c) zs) (j : Nat) : w.frozen? ⟨g, j, none⟩ = false := by
  have hn : n = zs.length := (own64.rd h).1
  subst hn
  exact World.ownsRow.frozenAt h j
theorem own64.isAt {w : World} {B : Nat} {v : Value} {zs : List Nat} (h : own64 w B v zs) (h0 : 0 < zs.length) : ∃ g c, v = .slice (some ⟨g, 0, none⟩) zs.length c ∧ B ≤ g ∧ g < w.heap.size := owns_some h h0
theorem drop_set_succ {ws : List Nat} {k x : Nat} : (ws.set k x).drop (k + 1) = ws.drop (k + 1) := by
  rw [List.drop_set_of_lt (by omega)]
theorem Hd.set {ws : List Nat} {k x : Nat} (h : Hd ws) (hx : x < 4294967296) : Hd (ws.set k x) := fun y hy => by
  rcases List.mem_or_eq_of_mem_set hy with hy | rfl
  · exact h y hy
  · exact hx
/-- The number of bytes, the highest first. -/
def bval (l : List Nat) : Nat := l.foldl (fun n c => 256 * n + c) 0
def B8 (l : List Nat) : Prop := ∀ x ∈ l, x < 256
theorem bval_snoc (l : List Nat) (c : Nat) : bval (l ++ [c]) = 256 * bval l + c := by simp [bval]
theorem foldl_bval (l : List Nat) (n : Nat) : l.foldl (fun n c => 256 * n + c) n = n * 256 ^ l.length + bval l := by
  induction l generalizing n with
  | nil => simp [bval]
  | cons c l ih =>
    have h1 := ih (256 * n + c)
    have h2 := ih (256 * 0 + c)
    unfold bval
    rw [List.foldl_cons, List.foldl_cons, h1, h2, List.length_cons, Nat.pow_succ]
    generalize 256 ^ l.length = p
    rw [Nat.add_mul, Nat.add_mul, Nat.mul_comm p 256, ← Nat.mul_assoc, Nat.mul_comm n 256]
    omega
theorem bval_append (a b : List Nat) : bval (a ++ b) = bval a * 256 ^ b.length + bval b := by
  show (a ++ b).foldl _ 0 = _
  rw [List.foldl_append, foldl_bval]
  rfl
theorem bval_cons (c : Nat) (l : List Nat) : bval (c :: l) = c * 256 ^ l.length + bval l := by
  have := bval_append [c] l
  simpa [bval] using this
theorem bval_lt {l : List Nat} (h : B8 l) : bval l < 256 ^ l.length := by
  induction l with
  | nil => simp [bval]
  | cons c l ih =>
    have h1 := ih (fun x hx => h x (by simp [hx]))
    have h2 := h c (by simp)
    rw [bval_cons, List.length_cons, Nat.pow_succ]
    generalize 256 ^ l.length = p at *
    have h3 : c * p ≤ 255 * p := Nat.mul_le_mul_right _ (by omega)
    omega
theorem B8.drop {l : List Nat} (h : B8 l) (n : Nat) : B8 (l.drop n) := fun y hy => h y (List.mem_of_mem_drop hy)
theorem B8.take {l : List Nat} (h : B8 l) (n : Nat) : B8 (l.take n) := fun y hy => h y (List.mem_of_mem_take hy)
theorem B8.at0 {l : List Nat} (h : B8 l) (i : Nat) : at0 l i < 256 := by
  unfold Go.Proofs.YtaookoejdnkkoaaGreatDoor.at0 List.getD
  by_cases hi : i < l.length
  · rw [List.getElem?_eq_getElem hi]; exact h _ (List.getElem_mem hi)
  · rw [List.getElem?_eq_none (by omega)]; decide
theorem pow_8 (q : Nat) : (18446744073709551616 : Nat) ^ q = 256 ^ (8 * q) := by rw [Nat.pow_mul]
/-- The limb at a place, out of the number. -/
theorem at0_val {ws : List Nat} (h : Bd ws) (q : Nat) (hq : q < ws.length) : at0 ws q = val ws / 18446744073709551616 ^ q % 18446744073709551616 := by
  have h1 := val_at ws q hq
  have h2 := val_lt (h.take q)
  rw [List.length_take, Nat.min_eq_left (by omega)] at h2
  rw [h1, Nat.add_comm, Nat.mul_add_div (Nat.pow_pos (by decide)), Nat.div_eq_of_lt h2, Nat.add_zero, Nat.add_mul_mod_self_left, Nat.mod_eq_of_lt (h.at0 q)]
/-- A limb into which nothing below a byte has been written. -/
theorem limb_free {ws : List Nat} {N p : Nat} (h : Bd ws) (hq : p / 8 < ws.length) (hv : val ws = N * 256 ^ (p + 1)) : ∃ t, at0 ws (p / 8) = t * 2 ^ (8 * (p % 8) + 8) := by
  rw [at0_val h _ hq, hv, pow_8]
  have e1 : 256 ^ (p + 1) = 256 ^ (p % 8 + 1) * 256 ^ (8 * (p / 8)) := by rw [← Nat.pow_add]; congr 1; omega
  have e2 : (18446744073709551616 : Nat) = 256 ^ (p % 8 + 1) * 256 ^ (7 - p % 8) := by rw [← Nat.pow_add, show p % 8 + 1 + (7 - p % 8) = 8 by omega]
  have e3 : 2 ^ (8 * (p % 8) + 8) = 256 ^ (p % 8 + 1) := by rw [show 8 * (p % 8) + 8 = 8 * (p % 8 + 1) by omega, Nat.pow_mul]
  rw [e1, ← Nat.mul_assoc, Nat.mul_div_cancel _ (Nat.pow_pos (by decide)), e2, e3, Nat.mul_comm N, Nat.mul_mod_mul_left, Nat.mul_comm]
  exact ⟨_, rfl⟩
theorem set_val {ws : List Nat} {q y : Nat} (hq : q < ws.length) : val (ws.set q y) + 18446744073709551616 ^ q * at0 ws q = val ws + 18446744073709551616 ^ q * y := by
  have h1 := val_at ws q hq
  have h2 := val_at (ws.set q y) q (by simpa using hq)
  rw [List.take_set_of_le (Nat.le_refl q), drop_set_succ, show at0 (ws.set q y) q = y by rw [at0_getElem (by simpa using hq)]; simp] at h2
  rw [h2]
  rw [h1, Nat.mul_add, Nat.mul_add]
  omega
theorem byte_step {ws : List Nat} {N p x : Nat} (h : Bd ws) (hq : p / 8 < ws.length) (hv : val ws = N * 256 ^ (p + 1)) (hx : x < 256) :
    (at0 ws (p / 8) ||| x * 2 ^ (8 * (p % 8))) = at0 ws (p / 8) + x * 2 ^ (8 * (p % 8)) ∧ at0 ws (p / 8) + x * 2 ^ (8 * (p % 8)) < 18446744073709551616 ∧ x * 2 ^ (8 * (p % 8)) < 18446744073709551616 ∧
    val (ws.set (p / 8) (at0 ws (p / 8) + x * 2 ^ (8 * (p % 8)))) = (256 * N + x) * 256 ^ p := by
  obtain ⟨t, ht⟩ := limb_free h hq hv
  have hb := h.at0 (p / 8)
  have hxs : x * 2 ^ (8 * (p % 8)) < 2 ^ (8 * (p % 8) + 8) := by
    rw [Nat.pow_add, Nat.mul_comm]; exact Nat.mul_lt_mul_of_pos_left hx (Nat.two_pow_pos _)
  have e64 : (18446744073709551616 : Nat) = 2 ^ (56 - 8 * (p % 8)) * 2 ^ (8 * (p % 8) + 8) := by rw [← Nat.pow_add, show 56 - 8 * (p % 8) + (8 * (p % 8) + 8) = 64 by omega]
  have htb : t < 2 ^ (56 - 8 * (p % 8)) := by
    refine Nat.lt_of_mul_lt_mul_right (a := 2 ^ (8 * (p % 8) + 8)) ?_
    rw [← e64, ← ht]; exact hb
  refine ⟨?_, ?_, ?_, ?_⟩
  · rw [ht, Nat.mul_comm t, Nat.two_pow_add_eq_or_of_lt hxs]
  · have h5 : (t + 1) * 2 ^ (8 * (p % 8) + 8) ≤ 2 ^ (56 - 8 * (p % 8)) * 2 ^ (8 * (p % 8) + 8) := Nat.mul_le_mul_right _ htb
    rw [← e64, Nat.add_mul, ← ht] at h5
    omega
  · have h6 : 1 * 2 ^ (8 * (p % 8) + 8) ≤ 2 ^ (56 - 8 * (p % 8)) * 2 ^ (8 * (p % 8) + 8) := Nat.mul_le_mul_right _ (Nat.two_pow_pos _)
    rw [← e64] at h6
    omega
  · have h7 := set_val (y := at0 ws (p / 8) + x * 2 ^ (8 * (p % 8))) hq
    have e8 : 18446744073709551616 ^ (p / 8) * (x * 2 ^ (8 * (p % 8))) = x * 256 ^ p := by
      rw [pow_8, show 2 ^ (8 * (p % 8)) = 256 ^ (p % 8) by rw [Nat.pow_mul], ← Nat.mul_assoc, Nat.mul_comm _ x, Nat.mul_assoc, ← Nat.pow_add, show 8 * (p / 8) + p % 8 = p by omega]
    rw [Nat.mul_add, e8, hv] at h7
    rw [Nat.add_mul, Nat.pow_succ] at *
    rw [show N * (256 ^ p * 256) = 256 * N * 256 ^ p by rw [Nat.mul_comm 256 N, Nat.mul_assoc, Nat.mul_comm 256]] at h7
    omega
/-- The bytes' form: no byte 0 ahead: as many limbs as bytes ask. -/
theorem cn64_of_ge {ws : List Nat} (hh : Bd ws) (h : 0 < ws.length → 18446744073709551616 ^ (ws.length - 1) ≤ val ws) : Cn ws := by
  intro hp e
  have h1 := val_take_drop ws (ws.length - 1) (by omega)
  have h2 : ws.drop (ws.length - 1) = [0] := by
    rw [List.drop_eq_getElem_cons (by omega), List.drop_of_length_le (by omega), ← at0_getElem (by omega), e]
  have h3 := val_lt (hh.take (ws.length - 1))
  rw [List.length_take, Nat.min_eq_left (by omega)] at h3
  have h4 := h hp
  rw [h2] at h1
  simp only [val] at h1
  omega
theorem bytes_cn {ws l : List Nat} (hh : Bd ws) (hl : ws.length = (l.length + 7) / 8) (hv : val ws = bval l) (h0 : at0 l 0 ≠ 0 ∨ l = []) : Cn ws := by
  refine cn64_of_ge hh fun hp => ?_
  rcases h0 with h0 | rfl
  · cases l with
    | nil => simp [at0] at h0
    | cons c l =>
      rw [at0_cons_zero] at h0
      rw [hv, bval_cons, pow_8]
      have h1 : 256 ^ (8 * (ws.length - 1)) ≤ 256 ^ l.length := Nat.pow_le_pow_right (by decide) (by simp at hl; omega)
      have h2 : 1 * 256 ^ l.length ≤ c * 256 ^ l.length := Nat.mul_le_mul_right _ (by omega)
      omega
  · rw [hl] at hp; simp at hp

/-- A new list of noughts. -/
theorem wpl_make64 {w : World} {ops : Array Oper} {rest : List Oper} {o : Oper} {a : Act} {Q : Exit → Act → World → Prop} (hg : o.guard = none) (l c : Operand) (hop : o.op = Op.makeSlice 23 l c)
    (B : Nat) (kl kc : IntKind) (L C : Int) (n : Nat) (hl : a.eval l = .int kl L) (hc : a.eval c = .int kc C) (hL : L = (n : Int)) (hC : C = (n : Int)) (hn : n ≤ 4398046511104) (hB : B ≤ w.heap.size)
    (hK : ∀ w', own64 w' B (.slice (some ⟨w.heap.size, 0, none⟩) n n) (List.replicate n 0) → Below B w w' → w.heap.size < w'.heap.size → wpList Tryz.prog ops Q rest (a.put o.dst (.slice (some ⟨w.heap.size, 0, none⟩) n n)) w') :
    wpList Tryz.prog ops Q (o :: rest) a w := by
  obtain ⟨i, hi, hz, hsz, hb⟩ := info_parts info64
  refine wpList_make_full w hg l c 23 hop B 47 i (.int .u64 0) 1 Tryz.underlying23 hi hz hsz kl kc L C n hl hc hL hC (by rw [hb]; omega) (by simp only [maxLen]; omega) hB ?_
  intro w' hown hgr
  refine hK w' ?_ ((Below.refl _ _).grown hgr hB (fun k hk => by cases hk)) ((hown.lt _ rfl).2)
  unfold own64
  rw [List.length_replicate]
  have e : (madeCells (Value.int .u64 0).cells (n * 1)).toList = u64s (List.replicate n 0) := by
    rw [Nat.mul_one, show (Value.int .u64 0).cells = #[.int .u64 0] from rfl, toList_madeCells_one, u64s, List.map_replicate]
    rfl
  rw [e] at hown
  exact hown

def lenOf : Value → Nat | .slice _ n _ => n | _ => 0
/-- Bytes' number. -/
def FromPost (l : List Nat) (w : World) (e : Ending) (w' : World) : Prop :=
  Below w.heap.size w w' ∧
  ((18446744073709551616 ^ 128 ≤ bval l ∧ e = .returned (.tuple #[.slice none 0 0, .int .i64 3])) ∨
   (bval l < 18446744073709551616 ^ 128 ∧ ∃ v zs, e = .returned (.tuple #[v, .int .i64 0]) ∧ own64 w' w.heap.size v zs ∧ Num zs (bval l)))

/-- A slice without its first element. -/
theorem Rd.tail {k : IntKind} {w : World} {b off : Nat} {xs : List Nat} (h : Rd k w (some ⟨b, off, none⟩) xs) : Rd k w (some ⟨b, off + 1, none⟩) (xs.drop 1) := by
  intro j hj
  simp at hj
  refine ⟨b, off + 1, rfl, fun i hi => ?_⟩
  simp at hi
  have := h.cell (i := i + 1) (by omega)
  have e := at0_drop (xs := xs) (i := i) (n := 1)
  unfold at0 at e this
  rw [e, show off + 1 + i = off + (i + 1) by omega, Nat.add_comm 1 i]
  exact this

theorem bval_zeros {l : List Nat} {j : Nat} (hj : j ≤ l.length) (hz : ∀ i, i < j → at0 l i = 0) : bval (l.drop j) = bval l := by
  induction j with
  | zero => rfl
  | succ j ih =>
    rw [← ih (by omega) (fun i hi => hz i (by omega)), List.drop_eq_getElem_cons (i := j) (by omega), bval_cons, ← at0_getElem (by omega), hz j (by omega), Nat.zero_mul, Nat.zero_add]
theorem bval_ge {l : List Nat} (h0 : at0 l 0 ≠ 0) : 256 ^ (l.length - 1) ≤ bval l := by
  cases l with
  | nil => simp [at0] at h0
  | cons c l =>
    rw [at0_cons_zero] at h0
    rw [bval_cons, List.length_cons, Nat.add_sub_cancel]
    have h2 : 1 * 256 ^ l.length ≤ c * 256 ^ l.length := Nat.mul_le_mul_right _ (by omega)
    omega
theorem pow_1024 : (256 : Nat) ^ 1024 = 18446744073709551616 ^ 128 := by decide +kernel
theorem Bd.set {ws : List Nat} {k x : Nat} (h : Bd ws) (hx : x < 18446744073709551616) : Bd (ws.set k x) := fun y hy => by
  rcases List.mem_or_eq_of_mem_set hy with hy | rfl
  · exact h y hy
  · exact hx
theorem or_nat (a b : Nat) (ha : a < 18446744073709551616) (hb : b < 18446744073709551616) : bits BinOp.or IntKind.u64 (a : Int) (b : Int) = ((a ||| b : Nat) : Int) := by
  have h1 : (BitVec.ofInt 64 (a : Int)).toNat = a := by
    rw [BitVec.ofInt_natCast, BitVec.toNat_ofNat]; exact Nat.mod_eq_of_lt (by omega)
  have h2 : (BitVec.ofInt 64 (b : Int)).toNat = b := by
    rw [BitVec.ofInt_natCast, BitVec.toNat_ofNat]; exact Nat.mod_eq_of_lt (by omega)
  have hx : a ||| b < 2 ^ 64 := Nat.or_lt_two_pow (by omega) (by omega)
  show IntKind.u64.wrap ((BitVec.ofInt 64 (a : Int) ||| BitVec.ofInt 64 (b : Int)).toNat : Int) = _
  rw [BitVec.toNat_or, h1, h2, IntKind.wrap_u64]
  omega

/-- What stands behind the bytes 0 ahead. -/
def Tail (l : List Nat) (w : World) (v : Value) : Prop := ∃ (j c' : Nat) (a' : Option Addr), j ≤ l.length ∧ v = .slice a' (l.length - j) c' ∧ l.length - j ≤ c' ∧ Rd .u8 w a' (l.drop j) ∧ bval (l.drop j) = bval l ∧ (at0 (l.drop j) 0 ≠ 0 ∨ l.drop j = [])

set_option exponentiation.threshold 10000 in
set_option maxHeartbeats 2000000 in
set_option maxRecDepth 100000 in
theorem from_any (a : Option Addr) (len cap : Nat) (l : List Nat) (w : World) (hl : l.length = len) (hbig : len ≤ 1099511627776) (hcap : len ≤ cap) (h8 : B8 l) (hr : Rd .u8 w a l) :
    Calls Tryz.prog 70 #[.slice a len cap] w (FromPost l w) := by
  go_enter Tryz.func70, Tryz.ntmps70
  go_upto_block 0 with (fail)
  go_cut [0] (fun v wx => Hid (Tail l w v) ∧ w = wx)
  case first =>
    go_wp2
    go_loop [0] (fun v => ∃ (j c' : Nat) (a' : Option Addr), j ≤ len ∧ v = .slice a' (len - j) c' ∧ len - j ≤ c' ∧ Hid (Rd .u8 w a' (l.drop j)) ∧ Hid (∀ i, i < j → at0 l i = 0)) (fun v => lenOf v)
    case atStart => exact ⟨0, cap, a, Nat.zero_le _, rfl, hcap, hr, fun i hi => by omega⟩
    case round =>
      clear hr
      obtain ⟨j, c', a', hj, rfl, hc', HR, hz⟩ := hrel
      by_cases hlt : j < len
      · obtain ⟨b, off, rfl⟩ := HR.out.isAt (by simp; omega)
        have hc1 := HR.out.cell (i := 0) (by simp; omega)
        have hA : Hid (at0 (l.drop j) 0 = at0 l j) := by show _ = _; rw [at0_drop, Nat.add_zero]
        rw [Nat.add_zero] at hc1
        obtain ⟨x, hx0⟩ : ∃ x, at0 (l.drop j) 0 = x := ⟨_, rfl⟩
        rw [hx0] at hc1 hA
        have HX := Lib.hid hx0
        clear hx0
        obtain ⟨m, hm⟩ : ∃ m, len - j = m + 1 := ⟨len - j - 1, by omega⟩
        have HM := Lib.hid hm
        rw [hm]
        clear hm
        by_cases hx : x = 0
        · subst hx
          obtain ⟨d, rfl⟩ : ∃ d, c' = d + 1 := ⟨c' - 1, by omega⟩
          have hdrop : (l.drop j).drop 1 = l.drop (j + 1) := by rw [List.drop_drop]
          have HH : Hid (Rd .u8 w (some ⟨b, off + 1, none⟩) (l.drop (j + 1))) := by rw [← hdrop]; exact HR.out.tail
          have HZ : Hid (∀ i, i < j + 1 → at0 l i = 0) := fun i hi => by
            rcases Nat.lt_succ_iff_lt_or_eq.1 hi with h | rfl
            · exact hz.out i h
            · exact hA.out.symm
          clear hdrop
          by_cases hd : d = 0
          · subst hd
            have hm0 : m = 0 := by have := HM.out; omega
            subst hm0
            go_wp2
            go_round
            case rel =>
              have := HM.out
              refine ⟨j + 1, 0, some ⟨b, off, none⟩, by omega, by rw [show len - (j + 1) = 0 by omega], by omega, ?_, HZ⟩
              rw [List.drop_of_length_le (by omega)]; exact Rd.nil _ _ _
            case measure => simp [lenOf]
          · go_wp2
            go_round
            case rel =>
              have := HM.out
              exact ⟨j + 1, d, some ⟨b, off + 1, none⟩, by omega, by rw [show len - (j + 1) = m by omega], by omega, HH, HZ⟩
            case measure => simp [lenOf]
        · have hq : ((x : Int) == 0) = false := by simp; omega
          have HX0 := Lib.hid hx
          clear hx
          go_wp2
          go_meet
          refine ⟨⟨j, c', _, by omega, by rw [hl, HM.out], by omega, HR.out, bval_zeros (by omega) hz.out, .inl (by rw [HX.out]; exact HX0.out)⟩, rfl⟩
      · obtain rfl : j = len := by omega
        have h0 : j - j = 0 := Nat.sub_self j
        rw [h0]
        go_wp2
        go_meet
        refine ⟨⟨j, c', a', by omega, by rw [hl, h0], by omega, HR.out, bval_zeros (by omega) hz.out, .inr (List.drop_of_length_le (by omega))⟩, rfl⟩
  case rest =>
    obtain ⟨HT, rfl⟩ := hcut
    obtain ⟨j, c', a', hj, rfl, hc', hr', hbv, hhead⟩ := HT.out
    have h8' : B8 (l.drop j) := h8.drop j
    obtain ⟨t, ht⟩ : ∃ t, l.drop j = t := ⟨_, rfl⟩
    have hlen : l.length - j = t.length := by rw [← ht, List.length_drop]
    rw [ht] at hr' hbv hhead h8'
    have htl : t.length ≤ len := by omega
    rw [hlen] at hc' ⊢
    have HBV := Lib.hid hbv
    clear HT hlen ht hr hj hbv hl h8 hcap
    by_cases hbig2 : 1024 < t.length
    · have HR : Hid (18446744073709551616 ^ 128 ≤ bval l) := by
        rcases hhead with h | h
        · have h1 := bval_ge h
          have h2 : 256 ^ 1024 ≤ 256 ^ (t.length - 1) := Nat.pow_le_pow_right (by decide) (by omega)
          rw [pow_1024] at h2
          rw [← HBV.out]
          exact Nat.le_trans h2 h1
        · rw [h] at hbig2; simp at hbig2
      clear hhead
      go_wp2
      go_ret2
      exact ⟨Below.refl _ _, .inl ⟨HR.out, rfl⟩⟩
    · have HHD := Lib.hid hhead
      clear hhead
      obtain ⟨n, hn⟩ : ∃ n, n = (t.length + 7) / 8 := ⟨_, rfl⟩
      have rn : ((t.length : Int) + 7) / 8 = (n : Int) := by omega
      have HN := Lib.hid hn
      have hn2 : n ≤ 200 := by omega
      clear hn
      go_wp2_with (at_make; refine wpl_make64 rfl _ _ rfl w.heap.size _ _ _ _ n rfl rfl rn rn (by omega) (Nat.le_refl _) ?_)
      intro w1 hown hbl hsz
      have HO := Lib.hid hown
      clear hown
      go_wp2
      go_loopw [29] (fun iv wr => ∃ (i : Nat) (ws : List Nat), i ≤ t.length ∧ iv = .int .i64 i ∧ Hid (own64 wr w.heap.size (.slice (some ⟨w.heap.size, 0, none⟩) n n) ws) ∧ Hid (Bd ws) ∧ Hid (val ws = bval (t.take i) * 256 ^ (t.length - i)) ∧ Below w.heap.size w wr) (fun iv _ => t.length - (intOf iv).toNat)
      case atStart => exact ⟨0, _, Nat.zero_le _, rfl, HO, fun x hx => by rw [List.eq_of_mem_replicate hx]; decide, by show _ = _; rw [val_replicate]; simp [bval], hbl⟩
      case round =>
        clear HO hbl
        obtain ⟨i, ws, hi, rfl, HO, HB, HV, hbl⟩ := hrel
        have HL : Hid (n = ws.length) := (own64.rd HO.out).1
        by_cases hlt : i < t.length
        · obtain ⟨b, off, rfl⟩ := hr'.isAt (by omega)
          have hc1 := below_cell hbl _ _ (hr'.cell (i := i) (by omega))
          obtain ⟨p, hp⟩ : ∃ p, p = t.length - 1 - i := ⟨_, rfl⟩
          have rp : (t.length : Int) - 1 - (i : Int) = (p : Int) := by omega
          have hpn : p / 8 < n := by have := HN.out; omega
          have hx8 := h8'.at0 i
          have HP : Hid (p + 1 = t.length - i) := by show _ = _; omega
          obtain ⟨st1, st2, st3, st4⟩ := byte_step (x := at0 t i) (N := bval (t.take i)) (p := p) HB.out (by rw [← HL.out]; exact hpn) (by rw [HV.out, HP.out]) hx8
          have HT : Hid (t.take (i + 1) = t.take i ++ [at0 t i]) := take_succ_at0 hlt
          have hc2 := own64.cell HO.out (j := p / 8) (by rw [← HL.out]; exact hpn)
          have hf2 := own64.free HO.out (p / 8)
          have HOS := fun (y : Nat) => own64.set HO.out (p / 8) y
          have hLb := HB.out.at0 (p / 8)
          generalize at0 t i = x at *
          generalize at0 ws (p / 8) = L at *
          obtain ⟨q, hq⟩ : ∃ q, q = p / 8 := ⟨_, rfl⟩
          obtain ⟨sh, hsh⟩ : ∃ sh, sh = 8 * (p % 8) := ⟨_, rfl⟩
          rw [← hsh] at st1 st2 st3 st4
          rw [← hq] at st4 hc2 hf2 HOS hpn
          obtain ⟨y, hy⟩ : ∃ y, y = x * 2 ^ sh := ⟨_, rfl⟩
          rw [← hy] at st1 st2 st3 st4
          have rq : (p : Int) / 8 = (q : Int) := by omega
          have rs : (p : Int) % 8 * 8 = (sh : Int) := by omega
          have hs63 : sh ≤ 56 := by omega
          have ro : bits BinOp.or IntKind.u64 (L : Int) (y : Int) = ((L + y : Nat) : Int) := by rw [← st1]; exact or_nat L y hLb st3
          have ry : IntKind.u64.wrap ((x : Int) * 2 ^ sh) = (y : Int) := by
            rw [show (x : Int) * 2 ^ sh = ((x * 2 ^ sh : Nat) : Int) by simp, ← hy, IntKind.wrap_u64]; omega
          have H4 := Lib.hid st4
          have HHS := Lib.hid HOS
          clear st1 st3 st4 HOS hq hsh hy hp
          go_wp2
          have rw1 : IntKind.i64.wrap (q : Int) = (q : Int) := IntWalk.i64_in _ (by omega)
          have hq0 : (0 : Int) ≤ (q : Int) := by omega
          have rwx : IntKind.u64.wrap (x : Int) = (x : Int) := IntWalk.u64_in _ (by omega)
          obtain ⟨r8, hr8⟩ : ∃ r8, r8 = p % 8 := ⟨_, rfl⟩
          have rt : (p : Int).tmod 8 = (r8 : Int) := by rw [Int.tmod_eq_emod_of_nonneg (by omega)]; omega
          have rm : IntKind.i64.wrap ((r8 : Int) * 8) = (sh : Int) := by rw [IntWalk.i64_in _ (by omega)]; omega
          have hs0 : (0 : Int) ≤ (sh : Int) := by omega
          clear hr8
          have hqn : (q : Int) < (n : Int) := by omega
          refine wp_region_still_tail 13 (by kernel_rfl) (by kernel_rfl) ?_
          simp only [List.take_succ_cons, List.take_zero, List.drop_succ_cons, List.drop_zero]
          iterate 13 still_step
          refine wpStill_nil ?_
          go_wp2
          go_roundw
          case rel =>
            refine ⟨i + 1, ws.set q (L + y), by omega, by go_num, ?_, HB.out.set st2, ?_, (hbl.setCell (p := ⟨w.heap.size, q, none⟩) (Nat.le_refl _) _).drew⟩
            · exact HHS.out (L + y)
            · show _ = _
              rw [H4.out, HT.out, bval_snoc, show t.length - (i + 1) = p by have := HP.out; omega]
          case measure => simp [intOf]; omega
        · obtain rfl : i = t.length := by omega
          have hval : val ws = bval l := by
            have := HV.out
            rw [List.take_length, Nat.sub_self, Nat.pow_zero, Nat.mul_one, HBV.out] at this
            exact this
          have hcn : Cn ws := by
            refine bytes_cn HB.out (by rw [← HL.out]; exact HN.out) (by rw [hval]; exact HBV.out.symm) HHD.out
          have HNU : Hid (Num ws (bval l)) := ⟨HB.out, hcn, hval⟩
          clear hval hcn
          go_wp2
          go_ret2
          refine ⟨hbl, .inr ⟨?_, _, ws, rfl, HO.out, HNU.out⟩⟩
          have h1 := bval_lt h8'
          have h2 : 256 ^ t.length ≤ 256 ^ 1024 := Nat.pow_le_pow_right (by decide) (by omega)
          rw [pow_1024] at h2
          rw [HBV.out] at h1
          omega
end Go.Proofs.YtaookoejdnkkoaaGreatDoor
