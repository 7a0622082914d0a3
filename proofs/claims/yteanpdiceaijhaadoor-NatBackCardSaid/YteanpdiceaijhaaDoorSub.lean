import Derived.Test.YteanpdiceaijhaaDoorDivS
import Derived.Shelf.RegionOpenPlain
namespace Go.Proofs.YteanpdiceaijhaaDoor
open Go.RowKit

/-- What Sub answers. -/
def SubPost (xs ys : List Nat) (w : World) (e : Ending) (w' : World) : Prop :=
  Below w.heap.size w w' ∧
  (((128 < fl xs ∨ 128 < fl ys) ∧ e = .returned (.tuple #[.slice none 0 0, .int .i64 3])) ∨
   (fl xs ≤ 128 ∧ fl ys ≤ 128 ∧ val xs < val ys ∧ e = .returned (.tuple #[.slice none 0 0, .int .i64 10])) ∨
   (fl xs ≤ 128 ∧ fl ys ≤ 128 ∧ val ys ≤ val xs ∧ ∃ v zs, e = .returned (.tuple #[v, .int .i64 0]) ∧ own64 w' w.heap.size v zs ∧ Num zs (val xs - val ys)))
set_option maxHeartbeats 1000000 in
set_option maxRecDepth 100000 in
theorem sub_below (a b : Option Addr) (la lb ca cb : Nat) (xs ys : List Nat) (w : World) (hla : xs.length = la) (hlb : ys.length = lb) (hba : la ≤ 1048576) (hbb : lb ≤ 1048576) (hca : la ≤ ca) (hcb : lb ≤ cb)
    (hra : Rd .u64 w a xs) (hrb : Rd .u64 w b ys) (bx : Bd xs) (bY : Bd ys) (hlt : val xs < val ys) :
    Calls Tryd.prog 26 #[.slice a la ca, .slice b lb cb] w (SubPost xs ys w) := by
  have hfa := (fl_spec xs).1
  have hfb := (fl_spec ys).1
  have HLT := Lib.hid hlt
  clear hlt
  go_enter Tryd.func26, Tryd.ntmps26
  go_wp2_with fail
  refine (both_any a b la lb ca cb xs ys _ hla hlb (by omega) (by omega) hca hcb hra hrb).mono ?_
  rintro e w1 ⟨hor, rfl⟩
  rcases hor with ⟨h1, h2, a', c', b', d', rfl, fa, fb⟩ | ⟨h1, rfl⟩
  · have hra' := fa.rd hra hfa
    have hrb' := fb.rd hrb hfb
    have hca' := (fa.cap hca (by omega)).1
    have hcb' := (fb.cap hcb (by omega)).1
    have V1 : Hid (val (xs.take (fl xs)) = val xs) := fm_val xs
    have V2 : Hid (val (ys.take (fl ys)) = val ys) := fm_val ys
    have e1 : Hid ((xs.take (fl xs)).length = fl xs) := fm_length xs
    have e2 : Hid ((ys.take (fl ys)).length = fl ys) := fm_length ys
    clear fa fb hra hrb
    go_wp2_with fail
    refine (cmp_any a' b' (fl xs) (fl ys) c' d' _ _ _ e1.out e2.out (by omega) (by omega) hca' hcb' hra' hrb' (bx.take _) (bY.take _)).mono ?_
    rintro e w1 ⟨rfl, nd, rfl⟩
    have hc := Lib.hid (cmpI_of_lt (show val (xs.take (fl xs)) < val (ys.take (fl ys)) by rw [V1.out, V2.out]; exact HLT.out))
    rw [hc.out]
    go_wp2
    go_ret2
    exact ⟨Chg.below (Chg.drewM (Chg.refl (fun _ => False) _) nd) (Nat.le_refl _) (fun _ h => h.elim), .inr (.inl ⟨h1, h2, HLT.out, rfl⟩)⟩
  · go_wp2
    go_ret2
    exact ⟨Below.refl _ _, .inl ⟨by omega, rfl⟩⟩

/-- Two lists that are the same are found to be. -/
def YesPost (w : World) (e : Ending) (w' : World) : Prop := e = .returned (.bool true) ∧ ∃ n, w' = w.drewN n
theorem words_same (a b : Option Addr) (n ca cb : Nat) (xs : List Nat) (w : World) (hla : xs.length = n) (hba : n ≤ 1099511627776) 
    (hra : Rd .u64 w a xs) (hrb : Rd .u64 w b xs) :
    Calls Tryd.prog 29 #[.slice a n ca, .slice b n cb] w (YesPost w) := by
  go_enter Tryd.func29, Tryd.ntmps29
  have hne : ((n : Int) != (n : Int)) = false := by simp
  go_wp2
  go_loopw [5] (fun v wr => ∃ i n' : Nat, i ≤ n ∧ v = .int .i64 (i : Nat) ∧ wr = w.drewN n') (fun v _ => n - (intOf v).toNat)
  case atStart => exact ⟨0, 0, Nat.zero_le _, rfl, rfl⟩
  case round =>
    obtain ⟨i, n', hi, rfl, rfl⟩ := hrel
    by_cases h0 : i < n
    · obtain ⟨ba, oa, rfl⟩ := hra.isAt (by omega)
      obtain ⟨bb, ob, rfl⟩ := hrb.isAt (by omega)
      have hc1 := hra.cell (i := i) (by omega)
      have hc2 := hrb.cell (i := i) (by omega)
      have h00 : (0 : Int) ≤ (i : Int) := by omega
      clear hra hrb
      generalize at0 xs i = x at *
      have hxx : ((x : Int) != (x : Int)) = false := by simp
      go_wp2
      go_quiet (fail)
      go_wp2
      go_roundw
      case rel => exact ⟨i + 1, n' + nq, by omega, by go_num, by first | rfl | exact World.drewN_drewN _ _ _⟩
      case measure => simp [intOf]; omega
    · have hq : decide (i < n) = false := by simp; omega
      go_wp2
      go_ret
      exact ⟨rfl, n', rfl⟩

abbrev own8 (w : World) (B : Nat) (v : Value) (zs : List Nat) : Prop := w.ownsRow B 5 1 v zs.length (u8s zs)
theorem u8s_at (xs : List Nat) (i : Nat) (h : i < xs.length) : (u8s xs)[i]? = some (.int .u8 (at0 xs i : Nat)) := by simp [u8s, h, at0_getElem]
theorem u8s_setL (xs : List Nat) (i x : Nat) : (u8s xs).set i (.int .u8 (x : Nat)) = u8s (xs.set i x) := by simp [u8s, List.map_set]
theorem own8.set {w : World} {B g n c : Nat} {zs : List Nat} (h : w.ownsRow B 5 1 (.slice (some ⟨g, 0, none⟩) n c) n (u8s zs)) (j x : Nat) : (w.setCell ⟨g, j, none⟩ (.int .u8 (x : Nat))).ownsRow B 5 1 (.slice (some ⟨g, 0, none⟩) n c) n (u8s (zs.set j x)) := by
  rw [← u8s_setL]
  exact (World.ownsRow.stored h j _).1
theorem at0_set {xs : List Nat} {i j x : Nat} (h : i < xs.length) : at0 (xs.set i x) j = if i = j then x else at0 xs j := by
  unfold at0
  simp only [List.getD, List.getElem?_set]
  by_cases e : i = j
  · subst e; simp [h]
  · simp [e]

set_option maxHeartbeats 1000000 in
set_option maxRecDepth 1000000 in
theorem reverse_any (g n c B : Nat) (xs : List Nat) (w : World) (hl : xs.length = n) (hbig : n ≤ 1099511627776) (ho : w.ownsRow B 5 1 (.slice (some ⟨g, 0, none⟩) n c) n (u8s xs)) :
    Calls Tryd.prog 61 #[.slice (some ⟨g, 0, none⟩) n c] w fun e w' => e = .returned (.tuple #[]) ∧ w'.ownsRow B 5 1 (.slice (some ⟨g, 0, none⟩) n c) n (u8s xs.reverse) ∧ Chg (fun k => k = g) w w' := by
  go_enter Tryd.func61, Tryd.ntmps61
  go_wp2
  go_loopw [2, 3] (fun v2 v3 wr => ∃ (i : Nat) (jz : Int) (ds : List Nat), i ≤ n ∧ v2 = .int .i64 (i : Nat) ∧ v3 = .int .i64 jz ∧ Hid (jz = (n : Int) - 1 - i) ∧ Hid (ds.length = n) ∧
      Hid (∀ k, k < n → at0 ds k = if k < i ∨ n ≤ k + i then at0 xs (n - 1 - k) else at0 xs k) ∧ Hid (wr.ownsRow B 5 1 (.slice (some ⟨g, 0, none⟩) n c) n (u8s ds)) ∧ Chg (fun k => k = g) w wr) (fun v2 _ _ => n - (intOf v2).toNat)
  case atStart => exact ⟨0, (n : Int) - 1, xs, Nat.zero_le _, rfl, rfl, (by show _ = _; omega), hl, (fun k hk => by simp; omega), ho, Chg.refl _ _⟩
  case round =>
    obtain ⟨i, jz, ds, hi, rfl, rfl, HJ, HL, HD, HO, hC⟩ := hrel
    by_cases hlt : (i : Int) < jz
    · obtain ⟨j, rfl⟩ : ∃ j : Nat, jz = (j : Int) := ⟨jz.toNat, by omega⟩
      have hij : i < j := by omega
      have hjn : j < n := by have := HJ.out; omega
      have hin : i < n := by omega
      have c1 := World.ownsRow.cellAt HO.out i (by omega)
      rw [u8s_at _ _ (by rw [HL.out]; omega)] at c1
      have c2 := World.ownsRow.cellAt HO.out j (by omega)
      rw [u8s_at _ _ (by rw [HL.out]; omega)] at c2
      have f1 := World.ownsRow.frozenAt HO.out i
      have f2 := World.ownsRow.frozenAt HO.out j
      obtain ⟨x, hx⟩ : ∃ x, x = at0 ds i := ⟨_, rfl⟩
      obtain ⟨y, hy⟩ : ∃ y, y = at0 ds j := ⟨_, rfl⟩
      rw [← hx] at c1
      rw [← hy] at c2
      have HX := Lib.hid hx
      have HY := Lib.hid hy
      clear hx hy ho
      go_wp2_with fail
      go_region
      go_wp2
      go_roundw
      case rel =>
        have hJ := HJ.out
        have hL := HL.out
        refine ⟨i + 1, (j : Int) - 1, (ds.set i y).set j x, by omega, by go_num, rfl, (by show _ = _; omega), (by show _ = _; simp; omega), ?_, ?_, ?_⟩
        · intro k hk
          rw [at0_set (by simp; omega), at0_set (by omega), HX.out, HY.out]
          have h1 := HD.out i hin
          have h2 := HD.out j hjn
          have h3 := HD.out k hk
          rw [if_neg (by omega)] at h1 h2
          by_cases e : j = k
          · rw [if_pos e, if_pos (by omega), h1]; congr 1; omega
          · rw [if_neg e]
            by_cases e2 : i = k
            · rw [if_pos e2, if_pos (by omega), h2]; congr 1; omega
            · rw [if_neg e2, h3]
              by_cases e3 : k < i ∨ n ≤ k + i
              · rw [if_pos e3, if_pos (by omega)]
              · rw [if_neg e3, if_neg (by omega)]
        · exact own8.set (own8.set HO.out i y) j x
        · exact ((hC.setCell (p := ⟨g, i, none⟩) rfl _).setCell (p := ⟨g, j, none⟩) rfl _).drew
      case measure => simp [intOf]; omega
    · have hq : decide ((i : Int) < jz) = false := by simp; omega
      go_wp2
      go_end0
      have hJ := HJ.out
      have hL := HL.out
      have e : ds = xs.reverse := by
        apply List.ext_getElem (by simp; omega)
        intro k h1 h2
        have := HD.out k (by omega)
        rw [at0_getElem h1] at this
        rw [List.getElem_reverse, this]
        by_cases e3 : k < i ∨ n ≤ k + i
        · rw [if_pos e3, at0_getElem (by omega)]; congr 1; omega
        · rw [if_neg e3, at0_getElem (by omega)]; congr 1; omega
      rw [← e]
      exact ⟨rfl, HO.out, hC⟩
end Go.Proofs.YteanpdiceaijhaaDoor
