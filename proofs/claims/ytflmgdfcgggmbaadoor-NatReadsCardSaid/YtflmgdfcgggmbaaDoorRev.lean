import Derived.Test.YtflmgdfcgggmbaaDoorSame
import Derived.Shelf.RegionOpenPlain
namespace Go.Proofs.YtflmgdfcgggmbaaDoor
open Go.RowKit

abbrev own8 (w : World) (B : Nat) (v : Value) (zs : List Nat) : Prop := w.ownsRow B 5 1 v zs.length (u8s zs)
theorem u8s_at (xs : List Nat) (i : Nat) (h : i < xs.length) : (u8s xs)[i]? = some (.int .u8 (at0 xs i : Nat)) := by simp [u8s, h, at0_getElem]
theorem u8s_setL (xs : List Nat) (i x : Nat) : (u8s xs).set i (.int .u8 (x : Nat)) = u8s (xs.set i x) := by simp [u8s, List.map_set]
theorem own8.set {w : World} {B g n c : Nat} {zs : List Nat} (h : w.ownsRow B 5 1 (.slice (some ⟨g, 0, none⟩) n c) n (u8s zs)) (j x : Nat) : (w.setCell ⟨g, j, none⟩ (.int .u8 (x : Nat))).ownsRow B 5 1 (.slice (some ⟨g, 0, none⟩) n c) n (u8s (zs.set j x)) := by
  rw [← u8s_setL]
  exact (World.ownsRow.stored h j _).1
theorem at0_set {xs : List Nat} {i j x : Nat} (h : i < xs.length) : at0 (xs.set i x) j = if i = j then x else at0 xs j := by
  unfold at0
  simp only [List.getD, List.getElem?_set]
  by_cases e : i = j
  · subst e; simp [h]
  · simp [e]

set_option maxHeartbeats 1000000 in
set_option maxRecDepth 1000000 in
theorem reverse_any (g n c B : Nat) (xs : List Nat) (w : World) (hl : xs.length = n) (hbig : n ≤ 1099511627776) (ho : w.ownsRow B 5 1 (.slice (some ⟨g, 0, none⟩) n c) n (u8s xs)) :
    Calls Tryd.prog 49 #[.slice (some ⟨g, 0, none⟩) n c] w fun e w' => e = .returned (.tuple #[]) ∧ w'.ownsRow B 5 1 (.slice (some ⟨g, 0, none⟩) n c) n (u8s xs.reverse) ∧ Chg (fun k => k = g) w w' := by
  go_enter Tryd.func49, Tryd.ntmps49
  go_wp2
  go_loopw [2, 3] (fun v2 v3 wr => ∃ (i : Nat) (jz : Int) (ds : List Nat), i ≤ n ∧ v2 = .int .i64 (i : Nat) ∧ v3 = .int .i64 jz ∧ Hid (jz = (n : Int) - 1 - i) ∧ Hid (ds.length = n) ∧
      Hid (∀ k, k < n → at0 ds k = if k < i ∨ n ≤ k + i then at0 xs (n - 1 - k) else at0 xs k) ∧ Hid (wr.ownsRow B 5 1 (.slice (some ⟨g, 0, none⟩) n c) n (u8s ds)) ∧ Chg (fun k => k = g) w wr) (fun v2 _ _ => n - (intOf v2).toNat)
  case atStart => exact ⟨0, (n : Int) - 1, xs, Nat.zero_le _, rfl, rfl, (by show _ = _; omega), hl, (fun k hk => by simp; omega), ho, Chg.refl _ _⟩
  case round =>
    obtain ⟨i, jz, ds, hi, rfl, rfl, HJ, HL, HD, HO, hC⟩ := hrel
    by_cases hlt : (i : Int) < jz
    · obtain ⟨j, rfl⟩ : ∃ j : Nat, jz = (j : Int) := ⟨jz.toNat, by omega⟩
      have hij : i < j := by omega
      have hjn : j < n := by have := HJ.out; omega
      have hin : i < n := by omega
      have c1 := World.ownsRow.cellAt HO.out i (by omega)
      rw [u8s_at _ _ (by rw [HL.out]; omega)] at c1
      have c2 := World.ownsRow.cellAt HO.out j (by omega)
      rw [u8s_at _ _ (by rw [HL.out]; omega)] at c2
      have f1 := World.ownsRow.frozenAt HO.out i
      have f2 := World.ownsRow.frozenAt HO.out j
      obtain ⟨x, hx⟩ : ∃ x, x = at0 ds i := ⟨_, rfl⟩
      obtain ⟨y, hy⟩ : ∃ y, y = at0 ds j := ⟨_, rfl⟩
      rw [← hx] at c1
      rw [← hy] at c2
      have HX := Lib.hid hx
      have HY := Lib.hid hy
      clear hx hy ho
      go_wp2_with fail
      go_region
      go_wp2
      go_roundw
      case rel =>
        have hJ := HJ.out
        have hL := HL.out
        refine ⟨i + 1, (j : Int) - 1, (ds.set i y).set j x, by omega, by go_num, rfl, (by show _ = _; omega), (by show _ = _; simp; omega), ?_, ?_, ?_⟩
        · intro k hk
          rw [at0_set (by simp; omega), at0_set (by omega), HX.out, HY.out]
          have h1 := HD.out i hin
          have h2 := HD.out j hjn
          have h3 := HD.out k hk
          rw [if_neg (by omega)] at h1 h2
          by_cases e : j = k
          · rw [if_pos e, if_pos (by omega), h1]; congr 1; omega
          · rw [if_neg e]
            by_cases e2 : i = k
            · rw [if_pos e2, if_pos (by omega), h2]; congr 1; omega
            · rw [if_neg e2, h3]
              by_cases e3 : k < i ∨ n ≤ k + i
              · rw [if_pos e3, if_pos (by omega)]
              · rw [if_neg e3, if_neg (by omega)]
        · exact own8.set (own8.set HO.out i y) j x
        · exact ((hC.setCell (p := ⟨g, i, none⟩) rfl _).setCell (p := ⟨g, j, none⟩) rfl _).drew
      case measure => simp [intOf]; omega
    · have hq : decide ((i : Int) < jz) = false := by simp; omega
      go_wp2
      go_end0
      have hJ := HJ.out
      have hL := HL.out
      have e : ds = xs.reverse := by
        apply List.ext_getElem (by simp; omega)
        intro k h1 h2
        have := HD.out k (by omega)
        rw [at0_getElem h1] at this
        rw [List.getElem_reverse, this]
        by_cases e3 : k < i ∨ n ≤ k + i
        · rw [if_pos e3, at0_getElem (by omega)]; congr 1; omega
        · rw [if_neg e3, at0_getElem (by omega)]; congr 1; omega
      rw [← e]
      exact ⟨rfl, HO.out, hC⟩
end Go.Proofs.YtflmgdfcgggmbaaDoor
