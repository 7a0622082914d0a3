import Derived.Test.YthccccpcjafdcaaDoorReads
namespace Go.Proofs.YthccccpcjafdcaaDoor
open Go.RowKit

theorem owns_below {w w' : World} {B E n : Nat} {v : Value} {xs : List Value} (h : w.ownsRow B E 1 v n xs) (hb : Below w.heap.size w w') : w'.ownsRow B E 1 v n xs :=
  (Chg.of_below hb).owns h fun k hk => by have := World.ownsRow.lt h k hk; omega
theorem own64.below {w w' : World} {B : Nat} {v : Value} {zs : List Nat} (h : own64 w B v zs) (hb : Below w.heap.size w w') : own64 w' B v zs := owns_below h hb
theorem rd8_of {w : World} {B g n c : Nat} {xs : List Nat} {L : List Value} (h : w.ownsRow B 5 1 (.slice (some ⟨g, 0, none⟩) n c) n L) (hL : L.take xs.length = u8s xs) (hn : xs.length ≤ n) : Rd .u8 w (some ⟨g, 0, none⟩) xs := by
  intro j hj
  refine ⟨g, 0, rfl, fun i hi => ?_⟩
  rw [Nat.zero_add, World.ownsRow.cellAt h i (by omega)]
  have h1 := u8s_at xs i hi
  rw [← hL, List.getElem?_take, if_pos hi] at h1
  exact h1
theorem own_room {w : World} {B E g n c : Nat} {L : List Value} (h : w.ownsRow B E 1 (.slice (some ⟨g, 0, none⟩) n c) n L) : n ≤ c := by
  rcases h.2 with ⟨h, _⟩ | ⟨g', c', cur, h, _, _, hn, _⟩
  · cases h
  · cases h; exact hn
theorem rw64.own {w : World} {B : Nat} {v : Value} {zs : List Nat} (h : own64 w B v zs) : w.ownsRow B 57 1 v zs.length (u64s zs) := h
theorem Sep.upd2 {w w' : World} {B bk : Nat} {r r' : Rw} {R : List Rw} (h : Sep w B (r :: R)) (hc : Chg (fun k => k = bk ∨ some k = r.v.ownBlock) w w') (hbk : ∀ s ∈ R, s.v.ownBlock ≠ some bk) (ho : w'.ownsRow B r'.E 1 r'.v r'.n r'.xs)
    (hb : ∀ k, r'.v.ownBlock = some k → r.v.ownBlock = some k ∨ w.heap.size ≤ k) : Sep w' B (r' :: R) := by
  obtain ⟨h1, h2⟩ := h
  have hp := List.pairwise_cons.1 h2
  refine ⟨fun s hs => ?_, List.pairwise_cons.2 ⟨fun s hs k hk hk' => ?_, hp.2⟩⟩
  · rcases List.mem_cons.1 hs with rfl | hs
    · exact ho
    · refine hc.owns (h1 s (List.mem_cons_of_mem _ hs)) (fun k hk e => ?_)
      rcases e with rfl | e
      · exact hbk s hs hk
      · exact hp.1 s hs k e.symm hk
  · rcases hb k hk with hb | hb
    · exact hp.1 s hs k hb hk'
    · have := World.ownsRow.lt (h1 s (List.mem_cons_of_mem _ hs)) k hk'
      omega
/-- A list of limbs as a row. -/
def rw64 (v : Value) (zs : List Nat) : Rw := ⟨v, 57, zs.length, u64s zs⟩

end Go.Proofs.YthccccpcjafdcaaDoor
