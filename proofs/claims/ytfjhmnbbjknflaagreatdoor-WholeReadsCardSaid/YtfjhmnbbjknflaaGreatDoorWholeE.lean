import Derived.Test.YtfjhmnbbjknflaaGreatDoorWholeT
import Derived.Test.YtfjhmnbbjknflaaGreatDoorWholeS
namespace Go.Proofs.YtfjhmnbbjknflaaGreatDoor
open Go.RowKit

theorem wv_not (m : Bool) (ys : List Nat) : wv (!m) ys = - wv m ys := by unfold wv; cases m <;> simp
theorem rblk3 (w w' : World) (o1 o2 : Obj) (h : Below (((w.alloc o1).alloc o2).alloc (.cells #[.bool false, .slice none 0 0] 24)).heap.size (((w.alloc o1).alloc o2).alloc (.cells #[.bool false, .slice none 0 0] 24)) w') : RBlk w' (w.heap.size + 1 + 1) :=
  (rblk (heap_third w o1 o2 (WO false none 0 0))).below h

set_option maxHeartbeats 1000000 in
set_option maxRecDepth 100000 in
theorem wsub_any (n m : Bool) (a b : Option Addr) (la ca lb cb : Nat) (xs ys : List Nat) (w : World) (hla : xs.length = la) (hlb : ys.length = lb) (hba : la ≤ 1048576) (hbb : lb ≤ 1048576) (hca : la ≤ ca) (hcb : lb ≤ cb)
    (hra : Rd .u64 w a xs) (hrb : Rd .u64 w b ys) (bx : Bd xs) (bY : Bd ys) (ht : TabSum w) (hna : a = none → ca = 0) (hnb : b = none → cb = 0) :
    Calls Tryz.prog 16 #[.agg #[.bool n, .slice a la ca], .agg #[.bool m, .slice b lb cb]] w (WTold (WTells (val xs < LIM ∧ val ys < LIM) (wv n xs - wv m ys)) w) := by
  have HC := Lib.hid (fun (W : World) (h : Below w.heap.size w W) => wadd_any n (!m) a b la ca lb cb xs ys W hla hlb hba hbb hca hcb (hra.below h) (hrb.below h) bx bY (ht.below h) hna hnb)
  have HE : Hid (wv n xs + wv (!m) ys = wv n xs - wv m ys) := by show _ = _; rw [wv_not]; omega
  clear hra hrb bx bY ht
  go_enter Tryz.func16, Tryz.ntmps16
  go_wp2_with fail
  have HB0 := Lib.hid ((((Below.refl w.heap.size w).alloc (Nat.le_refl _) (WO n a la ca)).alloc (by simp) (WO m b lb cb)).alloc (by simp <;> omega) (WO false none 0 0))
  refine (HC.out _ HB0.out).mono ?_
  intro e w2 hW
  rw [HE.out] at hW
  have hrb := rblk3 _ _ _ _ hW.1
  have HW := Lib.hid (hW.from HB0.out)
  obtain ⟨n', a', l', c', k', rfl⟩ := hW.told
  have HRB := Lib.hid hrb
  obtain ⟨_, c0, c1, f0, f1⟩ := hrb
  clear hW
  go_wp2
  refine bodyPost_ret (results_WOset rfl rfl rfl HRB.out) rfl ?_
  exact HW.out.set HRB.out (by omega) _ _

set_option maxHeartbeats 1000000 in
set_option maxRecDepth 100000 in
theorem wneg_any (n : Bool) (a : Option Addr) (la ca : Nat) (xs : List Nat) (w : World) (hla : xs.length = la) (hba : la ≤ 1048576) (hca : la ≤ ca) (hna : a = none → ca = 0) (hra : Rd .u64 w a xs) (bx : Bd xs) :
    Calls Tryz.prog 20 #[.agg #[.bool n, .slice a la ca]] w (WTold (WTells True (- wv n xs)) w) := by
  have HC := Lib.hid (fun (W : World) (h : Below w.heap.size w W) => make_any (!n) a la ca xs W hla hba hca hna (hra.below h) bx)
  have HE : Hid (wv (!n) xs = - wv n xs) := wv_not n xs
  clear hra bx
  go_enter Tryz.func20, Tryz.ntmps20
  go_wp2_with fail
  have HB0 := Lib.hid (((Below.refl w.heap.size w).alloc (Nat.le_refl _) (WO n a la ca)).alloc (by simp) (WO false none 0 0))
  refine (HC.out _ HB0.out).mono ?_
  intro e w2 hW
  rw [HE.out] at hW
  have hrb : RBlk w2 (w.heap.size + 1) := by
    have h := heap_new (w.alloc (WO n a la ca)) (WO false none 0 0)
    rw [show (w.alloc (WO n a la ca)).heap.size = w.heap.size + 1 by simp] at h
    exact (rblk h).below hW.1
  have hW := hW.wtold
  have HW := Lib.hid (hW.from HB0.out)
  obtain ⟨n', a', l', c', k', rfl⟩ := hW.told
  have HRB := Lib.hid hrb
  obtain ⟨_, c0, c1, f0, f1⟩ := hrb
  clear hW
  go_wp2
  refine bodyPost_ret (results_WOset rfl rfl rfl HRB.out) rfl ?_
  exact HW.out.set HRB.out (by omega) _ _

/-- A whole number's value, told by its worth. -/
def IsW (B : Nat) (w : World) (v : Value) (W : Int) : Prop :=
  ∃ a c zs, v = .agg #[.bool (decide (W < 0)), .slice a zs.length c] ∧ own64 w B (.slice a zs.length c) zs ∧ Num zs W.natAbs ∧ W.natAbs < LIM
/-- What numbers are known. -/
def Env (B : Nat) (w : World) (L : List (Value × Int)) : Prop := B ≤ w.heap.size ∧ ∀ p ∈ L, IsW B w p.1 p.2
theorem Env.get {B : Nat} {w : World} {L : List (Value × Int)} {v : Value} {W : Int} (h : Env B w L) (hm : (v, W) ∈ L) : IsW B w v W := h.2 _ hm
theorem IsW.below {B : Nat} {w w' : World} {v : Value} {W : Int} (h : IsW B w v W) (hb : Below w.heap.size w w') : IsW B w' v W := by
  obtain ⟨a, c, zs, h1, h2, h3, h4⟩ := h
  exact ⟨a, c, zs, h1, own64.under h2 hb, h3, h4⟩
theorem Env.below {B : Nat} {w w' : World} {L : List (Value × Int)} (h : Env B w L) (hb : Below w.heap.size w w') : Env B w' L :=
  ⟨Nat.le_trans h.1 hb.size, fun p hp => (h.2 p hp).below hb⟩
theorem Env.add {B : Nat} {w w' : World} {L : List (Value × Int)} {v : Value} {W : Int} (h : Env B w L) (hb : Below w.heap.size w w') (hv : IsW B w' v W) : Env B w' ((v, W) :: L) :=
  ⟨Nat.le_trans h.1 hb.size, fun p hp => by
    rcases List.mem_cons.1 hp with rfl | hp
    · exact hv
    · exact (h.2 p hp).below hb⟩
theorem env_of_ipost {B : Nat} {w w' : World} {L : List (Value × Int)} {e : Ending} {W : Int} (h : Env B w L) (hl : W.natAbs < LIM) (hp : IPost W w e w') : ∃ v, e = .returned v ∧ Env B w' ((v, W) :: L) ∧ Below w.heap.size w w' := by
  obtain ⟨hb, a, c, zs, rfl, ho, hN⟩ := hp
  exact ⟨_, rfl, h.add hb ⟨a, c, zs, rfl, owns_base ho h.1, hN, hl⟩, hb⟩
theorem small_fl {zs : List Nat} {n : Nat} (h : Num zs n) (hn : n < 18446744073709551616 ^ 31) : fl zs < 32 := by
  have := (h.len_le (k := 31)).2 hn
  have := (fl_spec zs).1
  omega
theorem len_lim {zs : List Nat} {n : Nat} (h : Num zs n) (hn : n < LIM) : zs.length ≤ 1048576 := by
  have := (h.len_le (k := 64)).2 hn; omega
theorem env_sign {B : Nat} {w : World} {L : List (Value × Int)} {v : Value} {W : Int} (hE : Env B w L) (h : (v, W) ∈ L) :
    Calls Tryz.prog 33 #[v] w fun e w' => e = .returned (.int .i64 (sg W)) ∧ Env B w' L ∧ Below w.heap.size w w' := by
  obtain ⟨a, ca, xs, rfl, ho1, hN1, hl1⟩ := hE.get h
  refine (wsign_any _ a _ ca xs w rfl (len_lim hN1 hl1) (own64.room ho1).1 (own64.rd ho1).2 hN1.bd).mono ?_
  rintro e w' ⟨rfl, rfl⟩
  rw [wv_int hN1]
  have hb := (Below.refl w.heap.size w).alloc (Nat.le_refl _) (WO (decide (W < 0)) a xs.length ca)
  exact ⟨rfl, hE.below hb, hb⟩
theorem env_cmp {B : Nat} {w : World} {L : List (Value × Int)} {v1 v2 : Value} {W1 W2 : Int} (hE : Env B w L) (ht : Tabs w) (h1 : (v1, W1) ∈ L) (h2 : (v2, W2) ∈ L) :
    Calls Tryz.prog 31 #[v1, v2] w fun e w' => e = .returned (.int .i64 (sg (W1 - W2))) ∧ Env B w' L ∧ Below w.heap.size w w' := by
  obtain ⟨a, ca, xs, rfl, ho1, hN1, hl1⟩ := hE.get h1
  obtain ⟨b, cb, ys, rfl, ho2, hN2, hl2⟩ := hE.get h2
  refine (wcmp_any _ _ a b _ ca _ cb xs ys w rfl rfl (len_lim hN1 hl1) (len_lim hN2 hl2) (own64.room ho1).1 (own64.room ho2).1 (own64.rd ho1).2 (own64.rd ho2).2 hN1.bd hN2.bd ht).mono ?_
  rintro e w' ⟨rfl, hb⟩
  rw [wv_int hN1, wv_int hN2]
  exact ⟨rfl, hE.below hb, hb⟩
end Go.Proofs.YtfjhmnbbjknflaaGreatDoor
