import Derived.Test.YtclbjmanmkoikaaGreatDoorBo
import Derived.Test.YtclbjmanmkoikaaGreatDoorBkW
import Derived.Test.YtclbjmanmkoikaaGreatDoorRc
import Derived.Test.YtclbjmanmkoikaaGreatDoorRa
import Derived.Test.YtclbjmanmkoikaaGreatDoorRb
namespace Go.Proofs.YtclbjmanmkoikaaGreatDoor
open Go.RowKit

theorem Sep.swap {w : World} {B : Nat} {r s : Rw} {R : List Rw} (h : Sep w B (r :: s :: R)) : Sep w B (s :: r :: R) := by
  obtain ⟨h1, h2⟩ := h
  have p1 := List.pairwise_cons.1 h2
  have p2 := List.pairwise_cons.1 p1.2
  refine ⟨fun x hx => h1 x (by simp only [List.mem_cons] at hx ⊢; rcases hx with h | h | h <;> simp [h]), List.pairwise_cons.2 ⟨fun x hx k hk hk' => ?_, List.pairwise_cons.2 ⟨fun x hx => p1.1 x (List.mem_cons_of_mem _ hx), p2.2⟩⟩⟩
  rcases List.mem_cons.1 hx with rfl | hx
  · exact p1.1 s List.mem_cons_self k hk' hk
  · exact p2.1 x hx k hk hk'
theorem Bok.bytes {w : World} {B bk T : Nat} {WV BV : List Value} {R : List Rw} {vw vb : Value} (h : Bok w B bk T WV BV R vw vb) (va : Option Addr) (vn vc : Nat) (hn : BV.length + 1 ≤ 1099511627776) :
    Calls Tryz.prog 16 #[.pointer (some ⟨bk, 0, none⟩), .slice va vn vc] w fun e w' => e = .returned (.tuple #[]) ∧ (∃ vb', Bok w' B bk T WV (BV ++ [.slice va vn vc]) R vw vb') ∧ Below bk w w' := by
  have hlt := h.lt
  have hbs := h.base
  have hsw := h.sep.swap
  refine (bookBytes_any bk B BV.length vw vb BV va vn vc w T h.book hsw.head (fun hk => by have := h.offb _ hk; omega) hn (by omega)).mono ?_
  rintro e w' ⟨rfl, g, cap, hbk, hown, hc, hg⟩
  have hbg : bk < g := by
    rcases hg with hg | hg
    · exact h.offb _ hg
    · omega
  refine ⟨rfl, ⟨_, hbk, Sep.swap ?_, h.off, h.offw, (fun k hk => ?_), hbs⟩, hc.below (Nat.le_of_lt hlt) fun k hk => ?_⟩
  · refine hsw.upd2 (r' := ⟨.slice (some ⟨g, 0, none⟩) (BV.length + 1) cap, 27, (BV ++ [Value.slice va vn vc]).length, BV ++ [Value.slice va vn vc]⟩) hc (fun s hs hk => ?_) (by simpa using hown) fun k hk => ?_
    · rcases List.mem_cons.1 hs with rfl | hs
      · have := h.offw _ hk; omega
      · exact h.off s hs hk
    · have : g = k := by simpa [Value.ownBlock] using hk
      subst this
      exact hg
  · have : g = k := by simpa [Value.ownBlock] using hk
    omega
  · rcases hk with rfl | hk
    · exact Nat.le_refl _
    · exact Nat.le_of_lt (h.offb k hk.symm)
theorem bytes_same (a b : Option Addr) (n ca cb : Nat) (xs : List Nat) (w : World) (hla : xs.length = n) (hba : n ≤ 1099511627776) 
    (hra : Rd .u8 w a xs) (hrb : Rd .u8 w b xs) :
    Calls Tryz.prog 14 #[.slice a n ca, .slice b n cb] w (YesPost w) := by
  go_enter Tryz.func14, Tryz.ntmps14
  have hne : ((n : Int) != (n : Int)) = false := by simp
  go_wp2
  go_loopw [5] (fun v wr => ∃ i n' : Nat, i ≤ n ∧ v = .int .i64 (i : Nat) ∧ wr = w.drewN n') (fun v _ => n - (intOf v).toNat)
  case atStart => exact ⟨0, 0, Nat.zero_le _, rfl, rfl⟩
  case round =>
    obtain ⟨i, n', hi, rfl, rfl⟩ := hrel
    by_cases h0 : i < n
    · obtain ⟨ba, oa, rfl⟩ := hra.isAt (by omega)
      obtain ⟨bb, ob, rfl⟩ := hrb.isAt (by omega)
      have hc1 := hra.cell (i := i) (by omega)
      have hc2 := hrb.cell (i := i) (by omega)
      have h00 : (0 : Int) ≤ (i : Int) := by omega
      clear hra hrb
      generalize at0 xs i = x at *
      have hxx : ((x : Int) != (x : Int)) = false := by simp
      go_wp2
      go_quiet (fail)
      go_wp2
      go_roundw
      case rel => exact ⟨i + 1, n' + nq, by omega, by go_num, by first | rfl | exact World.drewN_drewN _ _ _⟩
      case measure => simp [intOf]; omega
    · have hq : decide (i < n) = false := by simp; omega
      go_wp2
      go_ret
      exact ⟨rfl, n', rfl⟩
theorem own8_rd2 {w : World} {B : Nat} {a : Option Addr} {n c : Nat} {zs : List Nat} (h : own8 w B (.slice a n c) zs) : Rd .u8 w a zs := by
  rcases h.2 with ⟨hv, h0⟩ | ⟨g, c1, cur, hv, _, _, _, _, _, _⟩
  · intro j hj; omega
  · simp only [Value.slice.injEq] at hv
    obtain ⟨rfl, rfl, rfl⟩ := hv
    intro j hj
    refine ⟨g, 0, rfl, fun i hi => ?_⟩
    have h2 := World.ownsRow.cellAt h i (by omega)
    rw [Nat.zero_add, h2, u8s_at zs i hi]
    rfl
theorem BytesTells.sameB {xs : List Nat} {k k' : Int} {l l' : List Nat} (h : BytesTells xs k l) (h' : BytesTells xs k' l') : k = k' ∧ l = l' := h.one h'

theorem rd64_of {w : World} {B g n c : Nat} {xs : List Nat} {L : List Value} (h : w.ownsRow B 51 1 (.slice (some ⟨g, 0, none⟩) n c) n L) (hL : L.take xs.length = u64s xs) (hn : xs.length ≤ n) : Rd .u64 w (some ⟨g, 0, none⟩) xs := by
  intro j hj
  refine ⟨g, 0, rfl, fun i hi => ?_⟩
  rw [Nat.zero_add, World.ownsRow.cellAt h i (by omega)]
  have h1 := u64s_get xs i hi
  rw [← hL, List.getElem?_take, if_pos hi] at h1
  exact h1
theorem TextTells.form {P : Prop} {n : Nat} {w w' : World} {e : Ending} (h : TextTells P n w e w') : ∃ T k, e = .returned (.tuple #[.string T, .int .i64 k]) := by
  rcases h.2 with ⟨_, rfl⟩ | ⟨_, l, _, rfl⟩
  · exact ⟨_, _, rfl⟩
  · exact ⟨_, _, rfl⟩
/-- A list of bytes as a row. -/
def rw8 (v : Value) (zs : List Nat) : Rw := ⟨v, 5, zs.length, u8s zs⟩

end Go.Proofs.YtclbjmanmkoikaaGreatDoor
