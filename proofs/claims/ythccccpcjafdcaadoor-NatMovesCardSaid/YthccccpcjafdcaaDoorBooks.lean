import Derived.Test.YthccccpcjafdcaaDoorReadsA
namespace Go.Proofs.YthccccpcjafdcaaDoor
open Go.RowKit

theorem Sep.nilRow {w : World} {B : Nat} {R : List Rw} (h : Sep w B R) (E : TypeId) : Sep w B (⟨.slice none 0 0, E, 0, []⟩ :: R) :=
  h.add (Chg.refl _ _) (World.ownsRow_nil _ _ _ _) (fun k hk => by cases hk)
def rwNo : Rw := ⟨.slice none 0 0, 22, 0, []⟩
def rwNo8 : Rw := ⟨.slice none 0 0, 29, 0, []⟩
theorem map_getD (L : List Rw) (d : Rw) : (List.range L.length).map (fun i => (L.getD i d).v) = L.map (·.v) := by
  apply List.ext_getElem (by simp)
  intro i h1 h2
  simp at h1
  simp [List.getD, h1]
/-- The book's lists: all apart. -/
theorem apart_rows (B bk T : Nat) (vw vb : Value) (WL BL : List Rw) (w : World)
    (hsep : Sep w B (⟨vw, 22, WL.length, WL.map (·.v)⟩ :: ⟨vb, 29, BL.length, BL.map (·.v)⟩ :: rwNo :: rwNo8 :: (WL ++ BL)))
    (hoff : ∀ s ∈ (⟨vw, 22, WL.length, WL.map (·.v)⟩ :: ⟨vb, 29, BL.length, BL.map (·.v)⟩ :: rwNo :: rwNo8 :: (WL ++ BL) : List Rw), s.v.ownBlock ≠ some bk)
    (hbk : w.heap[bk]? = some (.cells #[vw, vb] T (0, 0))) (hEw : ∀ s ∈ WL, s.E = 57 ∧ s.n ≤ 1099511627776) (hEb : ∀ s ∈ BL, s.E = 5 ∧ s.n ≤ 1099511627776)
    (hlw : WL.length ≤ 1099511627776) (hlb : BL.length ≤ 1099511627776) (hBw : B ≤ w.heap.size) :
    Calls Tryd.prog 19 #[.pointer (some ⟨bk, 0, none⟩)] w fun e w' => e = .returned (.bool true) ∧ Chg (fun k => B ≤ k) w w' := by
  obtain ⟨R, hR⟩ : ∃ R, R = (⟨vw, 22, WL.length, WL.map (·.v)⟩ :: ⟨vb, 29, BL.length, BL.map (·.v)⟩ :: rwNo :: rwNo8 :: (WL ++ BL) : List Rw) := ⟨_, rfl⟩
  have hlen : R.length = 4 + WL.length + BL.length := by rw [hR]; simp; omega
  have hw : ∀ i, i < WL.length → R.getD (4 + i) rwNo = WL.getD i rwNo := fun i hi => by
    rw [hR, Nat.add_comm]
    simp only [List.getD, List.getElem?_cons_succ]
    rw [List.getElem?_append_left hi]
  have hb : ∀ i, i < BL.length → R.getD (4 + WL.length + i) rwNo = BL.getD i rwNo := fun i hi => by
    rw [hR, show 4 + WL.length + i = WL.length + i + 4 by omega]
    simp only [List.getD, List.getElem?_cons_succ]
    rw [List.getElem?_append_right (by omega), Nat.add_sub_cancel_left]
  have mw : ∀ i, i < WL.length → WL.getD i rwNo ∈ WL := fun i hi => by simp only [List.getD, List.getElem?_eq_getElem hi, Option.getD_some]; exact List.getElem_mem hi
  have mb : ∀ i, i < BL.length → BL.getD i rwNo ∈ BL := fun i hi => by simp only [List.getD, List.getElem?_eq_getElem hi, Option.getD_some]; exact List.getElem_mem hi
  have mr : ∀ i, i < R.length → R.getD i rwNo ∈ R := fun i hi => by simp only [List.getD, List.getElem?_eq_getElem hi, Option.getD_some]; exact List.getElem_mem hi
  rw [← hR] at hsep hoff
  refine apart_any B bk T WL.length BL.length vw vb (fun i => (WL.getD i rwNo).v) (fun i => (BL.getD i rwNo).v) (fun i => min (WL.getD i rwNo).n 1099511627776) (fun i => min (BL.getD i rwNo).n 1099511627776) (fun i => R.getD i rwNo) w ?_ ?_ (fun i => Nat.min_le_right _ _) (fun i => Nat.min_le_right _ _) hlw hlb hBw
  · refine ⟨hbk, ?_, fun i hi => hoff _ (mr i (by omega)), ?_, ?_, fun i hi => ?_, fun i hi => ?_, Chg.refl _ _⟩
    · have := Sep.fam rwNo hsep
      rw [hlen] at this
      exact this
    · show R.getD 0 rwNo = _
      rw [hR, map_getD]; rfl
    · show R.getD 1 rwNo = _
      rw [hR, map_getD]; rfl
    · show (R.getD (4 + i) rwNo).E = _
      rw [hw i hi]; exact (hEw _ (mw i hi)).1
    · show (R.getD (4 + WL.length + i) rwNo).E = _
      rw [hb i hi]; exact (hEb _ (mb i hi)).1
  · refine ⟨⟨fun i hi => ?_, fun i hi => ?_, trivial⟩, ?_, ?_, fun i hi => by omega⟩
    · show (R.getD (4 + i) rwNo).v = _ ∧ (R.getD (4 + i) rwNo).n = _
      rw [hw i hi]
      exact ⟨rfl, (Nat.min_eq_left (hEw _ (mw i hi)).2).symm⟩
    · show (R.getD (4 + WL.length + i) rwNo).v = _ ∧ (R.getD (4 + WL.length + i) rwNo).n = _
      rw [hb i hi]
      exact ⟨rfl, (Nat.min_eq_left (hEb _ (mb i hi)).2).symm⟩
    · show R.getD 2 rwNo = _
      rw [hR]; rfl
    · show R.getD 3 rwNo = _
      rw [hR]; rfl

/-- The book with its lists, and the rows about it. -/
structure Bok (w : World) (B bk T : Nat) (WV BV : List Value) (R : List Rw) (vw vb : Value) : Prop where
  book : w.heap[bk]? = some (.cells #[vw, vb] T (0, 0))
  sep : Sep w B (⟨vw, 22, WV.length, WV⟩ :: ⟨vb, 29, BV.length, BV⟩ :: R)
  off : ∀ s ∈ R, s.v.ownBlock ≠ some bk
  offw : ∀ k, vw.ownBlock = some k → bk < k
  offb : ∀ k, vb.ownBlock = some k → bk < k
  base : B ≤ bk
theorem Bok.start {w : World} {B T : Nat} {R : List Rw} (h : Sep w B R) (hB : B ≤ w.heap.size) {bk : Nat} (hk : bk = w.heap.size) : Bok (w.alloc (.cells #[.slice none 0 0, .slice none 0 0] T)) B bk T [] [] R (.slice none 0 0) (.slice none 0 0) := by
  subst hk
  refine ⟨heap_alloc_new w _, ((h.chg ((Chg.refl (fun _ => False) w).alloc _) (fun _ _ _ _ h => h)).nilRow _).nilRow _, fun s hs hk => ?_, (fun k hk => by cases hk), (fun k hk => by cases hk), hB⟩
  have := World.ownsRow.lt (h.1 s hs) _ hk
  omega
theorem Bok.lt {w : World} {B bk T : Nat} {WV BV : List Value} {R : List Rw} {vw vb : Value} (h : Bok w B bk T WV BV R vw vb) : bk < w.heap.size := lt_of_block h.book
theorem Bok.words {w : World} {B bk T : Nat} {WV BV : List Value} {R : List Rw} {vw vb : Value} (h : Bok w B bk T WV BV R vw vb) (va : Option Addr) (vn vc : Nat) (hn : WV.length + 1 ≤ 1099511627776) :
    Calls Tryd.prog 14 #[.pointer (some ⟨bk, 0, none⟩), .slice va vn vc] w fun e w' => e = .returned (.tuple #[]) ∧ (∃ vw', Bok w' B bk T (WV ++ [.slice va vn vc]) BV R vw' vb) ∧ Below bk w w' := by
  have hlt := h.lt
  have hbs := h.base
  refine (bookWords_any bk B WV.length vw vb WV va vn vc w T h.book h.sep.head (fun hk => by have := h.offw _ hk; omega) hn (by omega)).mono ?_
  rintro e w' ⟨rfl, g, cap, hbk, hown, hc, hg⟩
  have hbg : bk < g := by
    rcases hg with hg | hg
    · exact h.offw _ hg
    · omega
  refine ⟨rfl, ⟨_, hbk, ?_, h.off, (fun k hk => ?_), h.offb, hbs⟩, hc.below (Nat.le_of_lt hlt) fun k hk => ?_⟩
  · refine h.sep.upd2 (r' := ⟨.slice (some ⟨g, 0, none⟩) (WV.length + 1) cap, 22, (WV ++ [Value.slice va vn vc]).length, WV ++ [Value.slice va vn vc]⟩) hc (fun s hs hk => ?_) (by simpa using hown) fun k hk => ?_
    · rcases List.mem_cons.1 hs with rfl | hs
      · have := h.offb _ hk; omega
      · exact h.off s hs hk
    · have : g = k := by simpa [Value.ownBlock] using hk
      subst this
      exact hg
  · have : g = k := by simpa [Value.ownBlock] using hk
    omega
  · rcases hk with rfl | hk
    · exact Nat.le_refl _
    · exact Nat.le_of_lt (h.offw k hk.symm)
theorem Bok.apart {w : World} {B bk T : Nat} {WL BL : List Rw} {vw vb : Value} (h : Bok w B bk T (WL.map (·.v)) (BL.map (·.v)) (rwNo :: rwNo8 :: (WL ++ BL)) vw vb)
    (hEw : ∀ s ∈ WL, s.E = 57 ∧ s.n ≤ 1099511627776) (hEb : ∀ s ∈ BL, s.E = 5 ∧ s.n ≤ 1099511627776) (hlw : WL.length ≤ 1099511627776) (hlb : BL.length ≤ 1099511627776) :
    Calls Tryd.prog 19 #[.pointer (some ⟨bk, 0, none⟩)] w fun e w' => e = .returned (.bool true) ∧ Below B w w' := by
  have hlt := h.lt
  have hbs := h.base
  have hsep := h.sep
  simp only [List.length_map] at hsep
  refine (apart_rows B bk T vw vb WL BL w hsep (fun s hs hk => ?_) h.book hEw hEb hlw hlb (by omega)).mono ?_
  · rcases List.mem_cons.1 hs with rfl | hs
    · have := h.offw _ hk; omega
    · rcases List.mem_cons.1 hs with rfl | hs
      · have := h.offb _ hk; omega
      · exact h.off s hs hk
  · rintro e w' ⟨rfl, hc⟩
    exact ⟨rfl, hc.below (by omega) fun k hk => hk⟩
theorem Bok.below {w w' : World} {B bk T : Nat} {WV BV : List Value} {R : List Rw} {vw vb : Value} (h : Bok w B bk T WV BV R vw vb) (hb : Below w.heap.size w w') : Bok w' B bk T WV BV R vw vb :=
  ⟨(hb.block _ h.lt).trans h.book, h.sep.chg (Chg.of_below hb) (fun r hr k hk => by have := World.ownsRow.lt (h.sep.1 r hr) k hk; omega), h.off, h.offw, h.offb, h.base⟩
end Go.Proofs.YthccccpcjafdcaaDoor
