import Derived.Test.YtaookoejdnkkoaaGreatDoorKBo
namespace Go.Proofs.YtaookoejdnkkoaaGreatDoor
open Go.RowKit

theorem Sep.swap {w : World} {B : Nat} {r s : Rw} {R : List Rw} (h : Sep w B (r :: s :: R)) : Sep w B (s :: r :: R) := by
  obtain ⟨h1, h2⟩ := h
  have p1 := List.pairwise_cons.1 h2
  have p2 := List.pairwise_cons.1 p1.2
  refine ⟨fun x hx => h1 x (by simp only [List.mem_cons] at hx ⊢; rcases hx with h | h | h <;> simp [h]), List.pairwise_cons.2 ⟨fun x hx k hk hk' => ?_, List.pairwise_cons.2 ⟨fun x hx => p1.1 x (List.mem_cons_of_mem _ hx), p2.2⟩⟩⟩
  rcases List.mem_cons.1 hx with rfl | hx
  · exact p1.1 s List.mem_cons_self k hk' hk
  · exact p2.1 x hx k hk hk'
theorem Bok.bytes {w : World} {B bk T : Nat} {WV BV : List Value} {R : List Rw} {vw vb : Value} (h : Bok w B bk T WV BV R vw vb) (va : Option Addr) (vn vc : Nat) (hn : BV.length + 1 ≤ 1099511627776) :
    Calls Tryz.prog 23 #[.pointer (some ⟨bk, 0, none⟩), .slice va vn vc] w fun e w' => e = .returned (.tuple #[]) ∧ (∃ vb', Bok w' B bk T WV (BV ++ [.slice va vn vc]) R vw vb') ∧ Below bk w w' := by
  have hlt := h.lt
  have hbs := h.base
  have hsw := h.sep.swap
  refine (bookBytes_any bk B BV.length vw vb BV va vn vc w T h.book hsw.head (fun hk => by have := h.offb _ hk; omega) hn (by omega)).mono ?_
  rintro e w' ⟨rfl, g, cap, hbk, hown, hc, hg⟩
  have hbg : bk < g := by
    rcases hg with hg | hg
    · exact h.offb _ hg
    · omega
  refine ⟨rfl, ⟨_, hbk, Sep.swap ?_, h.off, h.offw, (fun k hk => ?_), hbs⟩, hc.below (Nat.le_of_lt hlt) fun k hk => ?_⟩
  · refine hsw.upd2 (r' := ⟨.slice (some ⟨g, 0, none⟩) (BV.length + 1) cap, 40, (BV ++ [Value.slice va vn vc]).length, BV ++ [Value.slice va vn vc]⟩) hc (fun s hs hk => ?_) (by simpa using hown) fun k hk => ?_
    · rcases List.mem_cons.1 hs with rfl | hs
      · have := h.offw _ hk; omega
      · exact h.off s hs hk
    · have : g = k := by simpa [Value.ownBlock] using hk
      subst this
      exact hg
  · have : g = k := by simpa [Value.ownBlock] using hk
    omega
  · rcases hk with rfl | hk
    · exact Nat.le_refl _
    · exact Nat.le_of_lt (h.offb k hk.symm)
end Go.Proofs.YtaookoejdnkkoaaGreatDoor
