import Derived.Test.YticncpeeeiobfaaDoorModR
import Derived.Test.YticncpeeeiobfaaDoorBo
import Derived.Test.YticncpeeeiobfaaDoorBkW
namespace Go.Proofs.YticncpeeeiobfaaDoor
open Go.RowKit

theorem rdw_of {w : World} {B g n c : Nat} {xs : List Nat} {L : List Value} (h : w.ownsRow B 23 1 (.slice (some ⟨g, 0, none⟩) n c) n L) (hL : L.take xs.length = u64s xs) (hn : xs.length ≤ n) : Rd .u64 w (some ⟨g, 0, none⟩) xs := by
  intro j hj
  refine ⟨g, 0, rfl, fun i hi => ?_⟩
  rw [Nat.zero_add, World.ownsRow.cellAt h i (by omega)]
  have h1 := u64s_get xs i hi
  rw [← hL, List.getElem?_take, if_pos hi] at h1
  exact h1
theorem m4same_any (a b : Option Addr) (n ca cb : Nat) (k : Int) (xs : List Nat) (w : World) (hla : xs.length = n) (hba : n ≤ 1099511627776)
    (hra : Rd .u64 w a xs) (hrb : Rd .u64 w b xs) :
    Calls Tryd.prog 21 #[.slice a n ca, .int .i64 k, .slice b n cb, .int .i64 k] w fun e w' => e = .returned (.bool true) ∧ Below w.heap.size w w' := by
  go_enter Tryd.func21, Tryd.ntmps21
  have hq : (k == k) = true := by simp
  go_wp2_with fail
  refine (words_same a b n ca cb xs _ hla hba hra hrb).mono ?_
  rintro e w1 ⟨rfl, nd, rfl⟩
  go_wp2
  go_ret
  exact ⟨rfl, below_dn _ nd⟩
/-- What the law knows: answers' lists, those of them that are to be apart. -/
structure Wl (w0 : World) (O : List (Value × List Nat)) (R : List Rw) (W : World) : Prop where
  own : ∀ p ∈ O, own64 W w0.heap.size p.1 p.2
  sep : Sep W w0.heap.size R
  bel : Below w0.heap.size w0 W
theorem Wl.below {w0 W W' : World} {O : List (Value × List Nat)} {R : List Rw} (h : Wl w0 O R W) (hb : Below W.heap.size W W') : Wl w0 O R W' :=
  ⟨fun p hp => own64.keep (h.own p hp) hb, h.sep.chg (Chg.of_below hb) (fun r hr k hk => by have := World.ownsRow.lt (h.sep.1 r hr) k hk; omega), h.bel.trans (hb.mono h.bel.size)⟩
theorem Wl.rd {w0 W : World} {O : List (Value × List Nat)} {R : List Rw} (h : Wl w0 O R W) {a : Option Addr} {l c : Nat} {zs : List Nat} (hm : (.slice a l c, zs) ∈ O) : Rd .u64 W a zs := (own64.rd (h.own _ hm)).2
theorem Wl.told2 {w0 W W' : World} {O : List (Value × List Nat)} {R : List Rw} (h : Wl w0 O R W) {Q : Int → List Nat → Prop} {e : Ending} (hp : MPost Q W e W') :
    ∃ a l c k zs, e = .returned (.tuple #[.slice a l c, .int .i64 k]) ∧ zs.length = l ∧ Q k zs ∧ Wl w0 ((.slice a l c, zs) :: O) R W' := by
  obtain ⟨hb, a, c, k, zs, rfl, ho, hQ⟩ := hp
  have h2 := h.below hb
  exact ⟨a, _, c, k, zs, rfl, rfl, hQ, fun p hp => by
    rcases List.mem_cons.1 hp with rfl | hp
    · exact owns_base ho h.bel.size
    · exact h2.own p hp, h2.sep, h2.bel⟩
theorem Wl.told1 {w0 W W' : World} {O : List (Value × List Nat)} {R : List Rw} (h : Wl w0 O R W) {Q : Int → List Nat → Prop} {e : Ending} (hp : MPost Q W e W') :
    ∃ a l c k zs, e = .returned (.tuple #[.slice a l c, .int .i64 k]) ∧ zs.length = l ∧ Q k zs ∧ Wl w0 ((.slice a l c, zs) :: O) (rw64 (.slice a l c) zs :: R) W' := by
  obtain ⟨hb, a, c, k, zs, rfl, ho, hQ⟩ := hp
  have h2 := h.below hb
  refine ⟨a, _, c, k, zs, rfl, rfl, hQ, fun p hp => ?_, ⟨fun r hr => ?_, List.pairwise_cons.2 ⟨fun r hr k hk hk2 => ?_, h.sep.2⟩⟩, h2.bel⟩
  · rcases List.mem_cons.1 hp with rfl | hp
    · exact owns_base ho h.bel.size
    · exact h2.own p hp
  · rcases List.mem_cons.1 hr with rfl | hr
    · exact owns_base ho h.bel.size
    · exact h2.sep.1 r hr
  · have h3 := (World.ownsRow.lt ho k hk).1
    have h4 := (World.ownsRow.lt (h.sep.1 r hr) k hk2).2
    omega
theorem ModTells.len {P : Prop} {M X : Nat} {k : Int} {zs : List Nat} (h : ModTells P M X k zs) (hX : P → 0 < M → X < 18446744073709551616 ^ 128) : zs.length ≤ 128 := by
  rcases h with ⟨_, _, rfl⟩ | ⟨_, _, _, rfl⟩ | ⟨p, q, _, t⟩
  · exact Nat.zero_le _
  · exact Nat.zero_le _
  · exact (t.len_le (k := 128)).2 (hX p q)
theorem InvTells.len {P : Prop} {M A : Nat} {k : Int} {zs : List Nat} (h : InvTells P M A k zs) (hX : P → M < 18446744073709551616 ^ 128) : zs.length ≤ 128 := by
  rcases h with ⟨_, _, rfl⟩ | ⟨_, _, _, rfl⟩ | ⟨_, _, _, _, rfl⟩ | ⟨p, _, _, _, x, hx, _, t⟩
  · exact Nat.zero_le _
  · exact Nat.zero_le _
  · exact Nat.zero_le _
  · exact (t.len_le (k := 128)).2 (Nat.lt_trans hx (hX p))
theorem lim64_128 {M X : Nat} (h : M < 18446744073709551616 ^ 64) (hx : X < M) : X < 18446744073709551616 ^ 128 := Nat.lt_of_lt_of_le (Nat.lt_trans hx h) lim_le128
end Go.Proofs.YticncpeeeiobfaaDoor
