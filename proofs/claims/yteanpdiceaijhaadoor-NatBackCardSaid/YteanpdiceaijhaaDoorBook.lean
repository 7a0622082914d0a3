import Derived.Test.YteanpdiceaijhaaDoorBk
namespace Go.Proofs.YteanpdiceaijhaaDoor
open Go.RowKit

theorem book_set {w : World} {bk : Nat} {x y u : Value} {T : TypeId} (h : w.heap[bk]? = some (.cells #[x, y] T (0, 0))) :
    (w.setCell ⟨bk, 0, none⟩ u).heap[bk]? = some (.cells #[u, y] T (0, 0)) := by
  simp [World.setCell, Array.getElem?_modify, h]
theorem book_set1 {w : World} {bk : Nat} {x y u : Value} {T : TypeId} (h : w.heap[bk]? = some (.cells #[x, y] T (0, 0))) :
    (w.setCell ⟨bk, 1, none⟩ u).heap[bk]? = some (.cells #[x, u] T (0, 0)) := by
  simp [World.setCell, Array.getElem?_modify, h]

set_option maxHeartbeats 400000 in
theorem bookWords_any (bk B n : Nat) (vw vb : Value) (L : List Value) (va : Option Addr) (vn vc : Nat) (w : World) (T : TypeId) (hbk : w.heap[bk]? = some (.cells #[vw, vb] T (0, 0))) (hown : w.ownsRow B 22 1 vw n L) (hne : vw.ownBlock ≠ some bk) (hn : n + 1 ≤ 1099511627776)
    (hB : B ≤ w.heap.size) :
    Calls Tryd.prog 18 #[.pointer (some ⟨bk, 0, none⟩), .slice va vn vc] w fun e w' => e = .returned (.tuple #[]) ∧
      ∃ g cap, w'.heap[bk]? = some (.cells #[.slice (some ⟨g, 0, none⟩) (n + 1) cap, vb] T (0, 0)) ∧ w'.ownsRow B 22 1 (.slice (some ⟨g, 0, none⟩) (n + 1) cap) (n + 1) (L ++ [.slice va vn vc]) ∧
        Chg (fun k => k = bk ∨ some k = vw.ownBlock) w w' ∧ (vw.ownBlock = some g ∨ w.heap.size ≤ g) := by
  have hc0 : w.cell? ⟨bk, 0, none⟩ = some vw := by simp [World.cell?, hbk]
  have hlt := lt_of_block hbk
  go_enter Tryd.func18, Tryd.ntmps18
  go_wp2_with (at_builtin; refine wpl_app 32 22 Tryd.underlying32 infoL64 rfl (by decide) rfl _ _ rfl B vw n L rfl (hown.alloc _) w.heap.size (.slice va vn vc) rfl (World.cell?_alloc_at _ _ _ _ rfl) rfl (by omega) (by simp; omega) ?_)
  intro g cap' w1 hown1 hg1 hBg hgl hgo
  have C1 : Chg (fun k => some k = vw.ownBlock) w w1 := ((Chg.refl _ _).alloc _).trans (Chg.of_grown hg1)
  have hbk1 := C1.heap hbk (fun e => hne e.symm)
  have hc1 : w1.cell? ⟨bk, 0, none⟩ = some vw := by simp [World.cell?, hbk1]
  have hf1 : w1.frozen? ⟨bk, 0, none⟩ = false := by simp [World.frozen?, hbk1]
  have HO := Lib.hid hown1
  have HG := Lib.hid hg1
  clear hown1 hg1
  go_wp2
  refine bodyPost_end (results_none rfl _ _ _) rfl ⟨rfl, g, cap', book_set hbk1, Chg.owns ((Chg.refl (fun k => k = bk) _).setCell rfl _) HO.out ?_, (C1.mono (fun i h _ => .inr h)).setCell (.inl rfl) _, ?_⟩
  · intro k hk e
    obtain rfl : g = k := by simpa [Value.ownBlock] using hk
    subst e
    rcases hgo with h | h
    · exact hne h
    · omega
  · rcases hgo with h | h
    · exact .inl h
    · right; omega
set_option maxHeartbeats 400000 in
theorem bookBytes_any (bk B n : Nat) (vw vb : Value) (L : List Value) (va : Option Addr) (vn vc : Nat) (w : World) (T : TypeId) (hbk : w.heap[bk]? = some (.cells #[vw, vb] T (0, 0))) (hown : w.ownsRow B 29 1 vb n L) (hne : vb.ownBlock ≠ some bk) (hn : n + 1 ≤ 1099511627776)
    (hB : B ≤ w.heap.size) :
    Calls Tryd.prog 19 #[.pointer (some ⟨bk, 0, none⟩), .slice va vn vc] w fun e w' => e = .returned (.tuple #[]) ∧
      ∃ g cap, w'.heap[bk]? = some (.cells #[vw, .slice (some ⟨g, 0, none⟩) (n + 1) cap] T (0, 0)) ∧ w'.ownsRow B 29 1 (.slice (some ⟨g, 0, none⟩) (n + 1) cap) (n + 1) (L ++ [.slice va vn vc]) ∧
        Chg (fun k => k = bk ∨ some k = vb.ownBlock) w w' ∧ (vb.ownBlock = some g ∨ w.heap.size ≤ g) := by
  have hc0 : w.cell? ⟨bk, 1, none⟩ = some vb := by simp [World.cell?, hbk]
  have hlt := lt_of_block hbk
  go_enter Tryd.func19, Tryd.ntmps19
  go_wp2_with (at_builtin; refine wpl_app 33 29 Tryd.underlying33 infoL8 rfl (by decide) rfl _ _ rfl B vb n L rfl (hown.alloc _) w.heap.size (.slice va vn vc) rfl (World.cell?_alloc_at _ _ _ _ rfl) rfl (by omega) (by simp; omega) ?_)
  intro g cap' w1 hown1 hg1 hBg hgl hgo
  have C1 : Chg (fun k => some k = vb.ownBlock) w w1 := ((Chg.refl _ _).alloc _).trans (Chg.of_grown hg1)
  have hbk1 := C1.heap hbk (fun e => hne e.symm)
  have hc1 : w1.cell? ⟨bk, 1, none⟩ = some vb := by simp [World.cell?, hbk1]
  have hf1 : w1.frozen? ⟨bk, 1, none⟩ = false := by simp [World.frozen?, hbk1]
  have HO := Lib.hid hown1
  have HG := Lib.hid hg1
  clear hown1 hg1
  go_wp2
  refine bodyPost_end (results_none rfl _ _ _) rfl ⟨rfl, g, cap', book_set1 hbk1, Chg.owns ((Chg.refl (fun k => k = bk) _).setCell rfl _) HO.out ?_, (C1.mono (fun i h _ => .inr h)).setCell (.inl rfl) _, ?_⟩
  · intro k hk e
    obtain rfl : g = k := by simpa [Value.ownBlock] using hk
    subst e
    rcases hgo with h | h
    · exact hne h
    · omega
  · rcases hgo with h | h
    · exact .inl h
    · right; omega
end Go.Proofs.YteanpdiceaijhaaDoor
