import Derived.Test.YthhchpmlljfpjaaGreatPtP
namespace Go.Proofs.YthhchpmlljfpjaaGreat
open Go.RowKit

/-! Brackets whole, parts put together, repetitions. -/
theorem TreeRet.imp {rb : Nat} {s : ByteArray} {i o n : Nat} {p q : Nat → Res PT → Prop} {w : World} {e : Ending} {w' : World} (h : TreeRet rb s i o n p w e w') (hpq : ∀ j r, p j r → q j r) : TreeRet rb s i o n q w e w' := by
  obtain ⟨j, o', h1, h2, h3, h4⟩ := h
  refine ⟨j, o', h1, h2, h3, ?_⟩
  rcases h4 with ⟨t, a, b, c, d⟩ | ⟨k, a, b, c⟩
  · exact .inl ⟨t, a, b, hpq _ _ c, d⟩
  · exact .inr ⟨k, a, hpq _ _ b, c⟩
theorem p_bracket (rb : Nat) (s : ByteArray) (i o : Nat) (w : World) (n : Nat) (hn : s.size = n) (hbig : n ≤ 1099511627776) (hn32 : n < 4294967281) (hi : i ≤ n) (hg : Gl w) (hrb : 0 < rb) (hr : RB w rb s i o) :
    Calls Tryz.prog 105 #[.pointer (some ⟨rb, 0, none⟩)] w fun e w' => TreeRet rb s i o n (fun _ => Brkt ((bsN s).drop i)) w e w' := by
  have hl : (bsN s).length = n := by rw [bsN_len, hn]
  by_cases h94 : ((bsN s).drop i).head? = some 94
  · obtain ⟨r, hr94⟩ : ∃ r, (bsN s).drop i = 94 :: r := by
      cases hd : (bsN s).drop i with
      | nil => rw [hd] at h94; cases h94
      | cons c r => rw [hd] at h94; simp at h94; exact ⟨r, by rw [h94]⟩
    obtain ⟨q1, _, q3⟩ := drop_cons hr94
    have hi1 : i + 1 ≤ n := by omega
    have hp : (bsN ⟨#[94]⟩).isPrefixOf ((bsN s).drop i) = true := by rw [hr94]; rfl
    refine (p_bracket_go rb s i (i + 1) o w n true hn hbig hn32 (by omega) hi1 hg hrb hr (fun W hW => p_takes_yes rb s _ i o W n 1 hn hbig hi1 rfl hp hW)).mono fun e w' h => h.imp fun j res hb => ?_
    obtain ⟨f, hf, hres⟩ := hb
    refine ⟨f, S4.cpl, by rw [if_pos h94, hr94, List.tail_cons, ← q3]; exact hf, by rw [if_pos h94], ?_⟩
    cases f <;> exact hres
  · have hp : (bsN ⟨#[94]⟩).isPrefixOf ((bsN s).drop i) = false := by
      rw [Bool.eq_false_iff]
      intro hp
      apply h94
      cases hd : (bsN s).drop i with
      | nil => rw [hd] at hp; cases hp
      | cons c r =>
        rw [hd] at hp
        have hp : ((94 : Nat) == c && true) = true := hp
        simp at hp
        rw [hp]; rfl
    refine (p_bracket_go rb s i i o w n false hn hbig hn32 (Nat.le_refl _) hi hg hrb hr (fun W hW => p_takes_no rb s _ i o W n hn hi hp hW)).mono fun e w' h => h.imp fun j res hb => ?_
    obtain ⟨f, hf, hres⟩ := hb
    refine ⟨f, id, by rw [if_neg h94]; exact hf, by rw [if_neg h94], ?_⟩
    cases f <;> exact hres
def joinN (k : Int) (p : Value) : List NT → NT
  | [] => leafN 0 .zero
  | [t] => t
  | ps => .mk k .zero 0 0 p ps
theorem joinN_pt (k : Int) (p : Value) (ps : List NT) : (joinN k p ps).pt = joinT k (ps.map NT.pt) := by
  match ps with
  | [] => exact leafN_pt 0 .zero
  | [t] => rfl
  | a :: b :: t => unfold joinN; rw [NT.pt_mk]; rfl
theorem one8 {w : World} {B n : Nat} {p : Value} {xs : List Value} (h : w.ownsRow B 42 8 p n xs) (hn : 0 < n) : ∃ g c, p = .slice (some ⟨g, 0, none⟩) n c ∧ n ≤ c ∧ c ≤ maxLen ∧ B ≤ g ∧ g < w.heap.size ∧ ∀ j u, xs[j]? = some u → w.cell? ⟨g, j, none⟩ = some u := by
  have hlt := World.ownsRow.lt h
  rcases h.2 with ⟨_, h0⟩ | ⟨g, c, cur, rfl, h1, h2, h3, h4, h5, h6⟩
  · omega
  · refine ⟨g, c, rfl, h3, h4, h1, (hlt g rfl).2, fun j u hj => ?_⟩
    have := World.ownsRow.cells (g := g) h rfl j u hj
    rwa [show (⟨g, 0, none⟩ : Addr).add j = ⟨g, j, none⟩ by unfold Addr.add; split <;> simp_all] at this
set_option maxHeartbeats 800000 in
set_option maxRecDepth 100000 in
theorem p_joined0 (k : Int) (p : Value) (c : Nat) (a : Option Addr) (hp : p = .slice a 0 c) (w : World) :
    Calls Tryz.prog 61 #[.int .i64 k, p] w fun e w' => e = .returned (leafN 0 .zero).val ∧ Below w.heap.size w w' := by
  subst hp
  have HC := Lib.hid (CB.new w 42 (leafN 0 .zero).cells)
  go_enter Tryz.func61, Tryz.ntmps61
  go_wp2
  refine bodyPost_ret (ret_row rfl rfl HC.out _ Tryz.underlying42 rfl infoNode) rfl ⟨rfl, ?_⟩
  exact (Below.refl _ _).alloc (Nat.le_refl _) _
set_option maxHeartbeats 800000 in
set_option maxRecDepth 100000 in
theorem p_joined1 (k : Int) (g c : Nat) (k' : Int) (s : S4) (m n : Int) (a : Option Addr) (l c' : Nat) (w : World) (hg : g < w.heap.size) (hc : ∀ j u, (nodeCells k' s m n (.slice a l c'))[j]? = some u → w.cell? ⟨g, j, none⟩ = some u) :
    Calls Tryz.prog 61 #[.int .i64 k, .slice (some ⟨g, 0, none⟩) 1 c] w fun e w' => e = .returned (nodeVal k' s m n (.slice a l c')) ∧ Below w.heap.size w w' := by
  have c0 : w.cell? ⟨g, 0, none⟩ = some (.int .i64 k') := hc 0 _ rfl
  have c1 : w.cell? ⟨g, 1, none⟩ = some (.int .u64 (s.a : Nat)) := hc 1 _ rfl
  have c2 : w.cell? ⟨g, 2, none⟩ = some (.int .u64 (s.b : Nat)) := hc 2 _ rfl
  have c3 : w.cell? ⟨g, 3, none⟩ = some (.int .u64 (s.c : Nat)) := hc 3 _ rfl
  have c4 : w.cell? ⟨g, 4, none⟩ = some (.int .u64 (s.d : Nat)) := hc 4 _ rfl
  have c5 : w.cell? ⟨g, 5, none⟩ = some (.int .i64 m) := hc 5 _ rfl
  have c6 : w.cell? ⟨g, 6, none⟩ = some (.int .i64 n) := hc 6 _ rfl
  have c7 : w.cell? ⟨g, 7, none⟩ = some (.slice a l c') := hc 7 _ rfl
  clear hc
  have HC := Lib.hid (CB.new w 42 (nodeCells k' s m n (.slice a l c')))
  go_enter Tryz.func61, Tryz.ntmps61
  go_wp2
  refine bodyPost_ret (ret_row rfl rfl HC.out _ Tryz.underlying42 rfl infoNode) rfl ⟨rfl, ?_⟩
  exact (Below.refl _ _).alloc (Nat.le_refl _) _
set_option maxHeartbeats 800000 in
set_option maxRecDepth 100000 in
theorem p_joined2 (k : Int) (p : Value) (n c : Nat) (a : Option Addr) (hp : p = .slice a n c) (hn : 2 ≤ n) (w : World) :
    Calls Tryz.prog 61 #[.int .i64 k, p] w fun e w' => e = .returned (nodeVal k .zero 0 0 p) ∧ Below w.heap.size w w' := by
  subst hp
  have HC := Lib.hid (CB.new w 42 (nodeCells k .zero 0 0 (.slice a n c)))
  have d0 : ((n : Int) == 0) = false := by simp; omega
  have d1 : ((n : Int) == 1) = false := by simp; omega
  go_enter Tryz.func61, Tryz.ntmps61
  go_wp2
  refine bodyPost_ret (ret_row rfl rfl HC.out _ Tryz.underlying42 rfl infoNode) rfl ⟨rfl, ?_⟩
  exact (Below.refl _ _).alloc (Nat.le_refl _) _
theorem own_slice {w : World} {B E S n : Nat} {v : Value} {xs : List Value} (h : w.ownsRow B E S v n xs) : ∃ a c, v = .slice a n c := by
  rcases h.2 with ⟨rfl, rfl⟩ | ⟨g, c, _, rfl, _⟩
  · exact ⟨none, 0, rfl⟩
  · exact ⟨_, _, rfl⟩
theorem p_joined (k : Int) (p : Value) (ps : List NT) (B : Nat) (w : World) (ho : w.ownsRow B 42 8 p ps.length (ps.flatMap NT.cells)) (hps : ∀ t ∈ ps, t.Own w B) :
    Calls Tryz.prog 61 #[.int .i64 k, p] w fun e w' => e = .returned (joinN k p ps).val ∧ Below w.heap.size w w' := by
  match ps, ho, hps with
  | [], ho, _ =>
    rcases ho.2 with ⟨h, _⟩ | ⟨g, c, _, h, _⟩
    · exact p_joined0 k p 0 none h w
    · exact p_joined0 k p c _ h w
  | [t], ho, hps =>
    obtain ⟨g, c, rfl, _, _, _, h1, h2⟩ := one8 ho (by simp)
    have ht := hps t (by simp)
    obtain ⟨k', s, m, n, p, qs⟩ := t
    obtain ⟨a, c', rfl⟩ := own_slice (NT.Own_mk.1 ht).1
    exact p_joined1 k g c k' s m n a _ c' w h1 (fun j u hj => h2 j u (by rw [List.flatMap_cons, List.flatMap_nil, List.append_nil]; exact hj))
  | a :: b :: t, ho, _ =>
    obtain ⟨g, c, hp, _⟩ := one8 ho (by simp)
    exact p_joined2 k p _ c _ hp (by simp) w
set_option maxHeartbeats 800000 in
set_option maxRecDepth 100000 in
theorem p_repeated (t : NT) (m n : Int) (w : World) :
    Calls Tryz.prog 96 #[t.val, .int .i64 m, .int .i64 n] w fun e w' => ∃ g, e = .returned (nodeVal 6 .zero m n (.slice (some ⟨g, 0, none⟩) 1 1)) ∧ w.heap.size ≤ g ∧ CB w' 42 g t.cells ∧ Below w.heap.size w w' := by
  have HC := Lib.hid (CB.alloc (cb2 w (.cells t.cells.toArray 42) 42 (nodeCells 6 .zero m n (.slice (some ⟨w.heap.size + 1 + 1, 0, none⟩) 1 1))) (.cells t.cells.toArray 42))
  have HG := Lib.hid (cb3 w (.cells t.cells.toArray 42) (.cells (nodeCells 6 .zero m n (.slice (some ⟨w.heap.size + 1 + 1, 0, none⟩) 1 1)).toArray 42) 42 t.cells)
  go_enter Tryz.func96, Tryz.ntmps96
  go_wp2
  refine bodyPost_ret (ret_row rfl rfl HC.out _ Tryz.underlying42 rfl infoNode) rfl ⟨_, rfl, by omega, HG.out, ?_⟩
  exact (((Below.refl _ _).alloc (Nat.le_refl _) _).alloc (by go_size) _).alloc (by go_size) _
/-- A tree that is repeated. -/
def repN (m n : Int) (g : Nat) (t : NT) : NT := .mk 6 .zero m n (.slice (some ⟨g, 0, none⟩) 1 1) [t]
theorem repN_pt (m n : Int) (g : Nat) (t : NT) : (repN m n g t).pt = repT4 m n t.pt := by unfold repN; rw [NT.pt_mk]; rfl
theorem repN_new {m n : Int} {g B : Nat} {t : NT} {w w' : World} (h : NewT w B t) (hB : B ≤ w.heap.size) (hg : w.heap.size ≤ g) (hc : CB w' 42 g t.cells) (hb : Below w.heap.size w w') : NewT w' B (repN m n g t) := by
  refine ⟨NT.Own_mk.2 ⟨⟨by simp [NT.cells], .inr ⟨g, 1, _, rfl, by omega, hc, Nat.le_refl _, by decide, by simp [NT.cells], by simp [NT.cells]⟩⟩, fun u hu => ?_⟩, ?_⟩
  · obtain rfl : u = t := by simpa using hu
    exact h.own.below hb
  · unfold repN
    rw [NT.foot_mk]
    simp only [Value.ownBlock, Option.toList, List.flatMap_cons, List.flatMap_nil, List.append_nil, List.singleton_append, List.nodup_cons]
    exact ⟨fun hm => by have := NT.Own.lt t h.own g hm; omega, h.nodup⟩
theorem TreeRet.split {rb : Nat} {s : ByteArray} {i o n : Nat} {p : Nat → Res PT → Prop} {w : World} {e : Ending} {w' : World} (h : TreeRet rb s i o n p w e w') :
    ∃ j o' : Nat, RS w w' rb s j o' ∧ i ≤ j ∧ j ≤ n ∧ ((∃ (k : Int) (S : S4) (m n : Int) (a : Option Addr) (l c : Nat) (ps : List NT), NewT w' w.heap.size (.mk k S m n (.slice a l c) ps) ∧ o = o' ∧ p j (.ok (NT.pt (.mk k S m n (.slice a l c) ps)) ((bsN s).drop j)) ∧ e = .returned (.tuple #[nodeVal k S m n (.slice a l c), .int .i64 0])) ∨ (∃ k : Int, k ≠ 0 ∧ p j (.no k.toNat) ∧ e = .returned (.tuple #[nodeVal 0 .zero 0 0 (.slice none 0 0), .int .i64 k]))) := by
  obtain ⟨j, o', h1, h2, h3, h4⟩ := h
  refine ⟨j, o', h1, h2, h3, h4.imp ?_ id⟩
  rintro ⟨t, a, b, c, d⟩
  obtain ⟨k, S, m, n, q, ps⟩ := t
  obtain ⟨aa, cc, rfl⟩ := own_slice (NT.Own_mk.1 a.own).1
  exact ⟨k, S, m, n, aa, _, cc, ps, a, b.symm, c, d⟩
end Go.Proofs.YthhchpmlljfpjaaGreat
