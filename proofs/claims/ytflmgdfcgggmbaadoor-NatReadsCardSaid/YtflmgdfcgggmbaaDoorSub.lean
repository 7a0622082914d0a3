import Derived.Test.YtflmgdfcgggmbaaDoorDivT
namespace Go.Proofs.YtflmgdfcgggmbaaDoor
open Go.RowKit

/-- What Sub answers. -/
def SubPost (xs ys : List Nat) (w : World) (e : Ending) (w' : World) : Prop :=
  Below w.heap.size w w' ∧
  (((128 < fl xs ∨ 128 < fl ys) ∧ e = .returned (.tuple #[.slice none 0 0, .int .i64 3])) ∨
   (fl xs ≤ 128 ∧ fl ys ≤ 128 ∧ val xs < val ys ∧ e = .returned (.tuple #[.slice none 0 0, .int .i64 10])) ∨
   (fl xs ≤ 128 ∧ fl ys ≤ 128 ∧ val ys ≤ val xs ∧ ∃ v zs, e = .returned (.tuple #[v, .int .i64 0]) ∧ own64 w' w.heap.size v zs ∧ Num zs (val xs - val ys)))
set_option maxHeartbeats 1000000 in
set_option maxRecDepth 100000 in
theorem sub_below (a b : Option Addr) (la lb ca cb : Nat) (xs ys : List Nat) (w : World) (hla : xs.length = la) (hlb : ys.length = lb) (hba : la ≤ 1048576) (hbb : lb ≤ 1048576) (hca : la ≤ ca) (hcb : lb ≤ cb)
    (hra : Rd .u64 w a xs) (hrb : Rd .u64 w b ys) (bx : Bd xs) (bY : Bd ys) (hlt : val xs < val ys) :
    Calls Tryd.prog 30 #[.slice a la ca, .slice b lb cb] w (SubPost xs ys w) := by
  have hfa := (fl_spec xs).1
  have hfb := (fl_spec ys).1
  have HLT := Lib.hid hlt
  clear hlt
  go_enter Tryd.func30, Tryd.ntmps30
  go_wp2_with fail
  refine (both_any a b la lb ca cb xs ys _ hla hlb (by omega) (by omega) hca hcb hra hrb).mono ?_
  rintro e w1 ⟨hor, rfl⟩
  rcases hor with ⟨h1, h2, a', c', b', d', rfl, fa, fb⟩ | ⟨h1, rfl⟩
  · have hra' := fa.rd hra hfa
    have hrb' := fb.rd hrb hfb
    have hca' := (fa.cap hca (by omega)).1
    have hcb' := (fb.cap hcb (by omega)).1
    have V1 : Hid (val (xs.take (fl xs)) = val xs) := fm_val xs
    have V2 : Hid (val (ys.take (fl ys)) = val ys) := fm_val ys
    have e1 : Hid ((xs.take (fl xs)).length = fl xs) := fm_length xs
    have e2 : Hid ((ys.take (fl ys)).length = fl ys) := fm_length ys
    clear fa fb hra hrb
    go_wp2_with fail
    refine (cmp_any a' b' (fl xs) (fl ys) c' d' _ _ _ e1.out e2.out (by omega) (by omega) hca' hcb' hra' hrb' (bx.take _) (bY.take _)).mono ?_
    rintro e w1 ⟨rfl, nd, rfl⟩
    have hc := Lib.hid (cmpI_of_lt (show val (xs.take (fl xs)) < val (ys.take (fl ys)) by rw [V1.out, V2.out]; exact HLT.out))
    rw [hc.out]
    go_wp2
    go_ret2
    exact ⟨Chg.below (Chg.drewM (Chg.refl (fun _ => False) _) nd) (Nat.le_refl _) (fun _ h => h.elim), .inr (.inl ⟨h1, h2, HLT.out, rfl⟩)⟩
  · go_wp2
    go_ret2
    exact ⟨Below.refl _ _, .inl ⟨by omega, rfl⟩⟩
end Go.Proofs.YtflmgdfcgggmbaaDoor
