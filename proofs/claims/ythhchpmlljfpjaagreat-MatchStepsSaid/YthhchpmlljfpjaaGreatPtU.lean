import Derived.Test.YthhchpmlljfpjaaGreatPtT
namespace Go.Proofs.YthhchpmlljfpjaaGreat
open Go.RowKit

/-! A sign of repetition; atoms, pieces, alternatives, patterns. -/
def TimesRet (rb : Nat) (s : ByteArray) (i o n : Nat) (w : World) (e : Ending) (w' : World) : Prop :=
  ∃ (j : Nat) (a b k : Int), RS w w' rb s j o ∧ i ≤ j ∧ j ≤ n ∧ e = .returned (.tuple #[.int .i64 a, .int .i64 b, .int .i64 k]) ∧ ((k = 0 ∧ i < j ∧ Times ((bsN s).drop i) a b ((bsN s).drop j)) ∨ (k = 105 ∧ ∀ m n r, ¬ Times ((bsN s).drop i) m n r))
set_option maxHeartbeats 1000000 in
set_option maxRecDepth 100000 in
theorem p_times (rb : Nat) (s : ByteArray) (i o : Nat) (w : World) (n : Nat) (hn : s.size = n) (hbig : n ≤ 1099511627776) (hn32 : n < 4294967281) (hg : Gl w) (hrb : 0 < rb) (hrep : hd isRep ((bsN s).drop i)) (hr : RB w rb s i o) :
    Calls Tryz.prog 95 #[.pointer (some ⟨rb, 0, none⟩)] w fun e w' => TimesRet rb s i o n w e w' := by
  have hl : (bsN s).length = n := by rw [bsN_len, hn]
  obtain ⟨t, ht⟩ : ∃ t, (bsN s).drop i = t := ⟨_, rfl⟩
  rw [ht] at hrep
  cases t with
  | nil => exact hrep.elim
  | cons c r =>
    obtain ⟨h1, h2, h3⟩ := drop_cons ht
    have hi1 : i + 1 ≤ n := by omega
    have hin : i < n := by omega
    have h8 := at8 s i
    rw [h2] at h8
    have hc := Lib.hid h2
    have H3 := Lib.hid h3
    have HT := Lib.hid ht
    clear ht h2 h3 hl h1
    have hrep : c = 42 ∨ c = 43 ∨ c = 63 ∨ c = 123 := hrep
    rcases hrep with rfl | rfl | rfl | rfl
    · go_enter Tryz.func95, Tryz.ntmps95
      go_wp2_with (go_at_call 103; (with_reducible refine (p_take_yes rb s i o _ n 42 hn hbig hin hc.out hr).mono ?_); rintro e w1 ⟨rfl, hs⟩)
      go_ret3
      exact ⟨i + 1, 0, -1, 0, hs, by omega, hi1, rfl, .inl ⟨rfl, by omega, by rw [HT.out, H3.out]; exact .star r⟩⟩
    · go_enter Tryz.func95, Tryz.ntmps95
      go_wp2_with (go_at_call 103; (with_reducible refine (p_take_yes rb s i o _ n 43 hn hbig hin hc.out hr).mono ?_); rintro e w1 ⟨rfl, hs⟩)
      go_ret3
      exact ⟨i + 1, 1, -1, 0, hs, by omega, hi1, rfl, .inl ⟨rfl, by omega, by rw [HT.out, H3.out]; exact .plus r⟩⟩
    · go_enter Tryz.func95, Tryz.ntmps95
      go_wp2_with (go_at_call 103; (with_reducible refine (p_take_yes rb s i o _ n 63 hn hbig hin hc.out hr).mono ?_); rintro e w1 ⟨rfl, hs⟩)
      go_ret3
      exact ⟨i + 1, 0, 1, 0, hs, by omega, hi1, rfl, .inl ⟨rfl, by omega, by rw [HT.out, H3.out]; exact .may r⟩⟩
    · go_enter Tryz.func95, Tryz.ntmps95
      go_wp2_with (first | (go_at_call 103; (with_reducible refine (p_take_yes rb s i o _ n 123 hn hbig hin hc.out hr).mono ?_); rintro e w1 ⟨rfl, hs⟩; have hg1 := Gl.chg hg hs.chg hrb) | (go_at_call 110; (with_reducible refine (p_interval rb s (i + 1) o _ n hn hbig hn32 hi1 hg1 hs.box).mono ?_); rintro e w2 ⟨j, a, b, k, hs2, hj, hjn, rfl, hk⟩; have HK := Lib.hid hk; clear hk))
      go_ret3
      refine ⟨j, a, b, k, hs.trans hs2, by omega, hjn, rfl, ?_⟩
      rw [HT.out]
      have h := HK.out
      rw [H3.out] at h
      rcases h with ⟨h1, h2, h3⟩ | ⟨h1, h2⟩
      · exact .inl ⟨h1, by omega, .intv (of_intv h3)⟩
      · refine .inr ⟨h1, fun m n' r' hT => ?_⟩
        cases hT with
        | intv hI => rw [intv_of hI] at h2; cases h2
/-- What each reading of a pattern's part tells, on texts that have at most so many bytes left. -/
def PatOK (s : ByteArray) (n m : Nat) : Prop := ∀ (rb i o : Nat) (w : World), i ≤ n → n - i + 1 ≤ m → o ≤ 64 → Gl w → 0 < rb → RB w rb s i o →
  Calls Tryz.prog 44 #[.pointer (some ⟨rb, 0, none⟩)] w fun e w' => TreeRet rb s i o n (fun _ => Run o (.pat []) ((bsN s).drop i)) w e w'
theorem RS.open {w0 w : World} {rb : Nat} {s : ByteArray} {i o : Nat} (h : RS w0 w rb s i o) (j : Nat) {v : Value} (hv : v = .int .i64 (j : Nat)) : RS w0 (w.setCell ⟨rb, 2, none⟩ v) rb s i j :=
  ⟨RB.open h.box j hv, Chg.setCell (S := fun k => k = rb) h.chg (p := ⟨rb, 2, none⟩) rfl _⟩
theorem NewT.below {w w' : World} {B : Nat} {t : NT} (h : NewT w B t) (hb : Below w.heap.size w w') : NewT w' B t := ⟨h.own.below hb, h.nodup⟩
theorem NewT.chg {S : Nat → Prop} {w w' : World} {B : Nat} {t : NT} (h : NewT w B t) (hc : Chg S w w') (hS : ∀ k, S k → k < B) : NewT w' B t :=
  ⟨NT.Own.chg hc t h.own fun g hg hs => by have := NT.Own.lt t h.own g hg; have := hS g hs; omega, h.nodup⟩
theorem NewT.base {w : World} {B B' : Nat} {t : NT} (h : NewT w B t) (hB : B' ≤ B) : NewT w B' t := ⟨NT.Own.base hB t h.own, h.nodup⟩
/-- A block that is not the tree's is written. -/
theorem NewT.put {w w' : World} {B g : Nat} {t : NT} (h : NewT w B t) (hc : Chg (fun k => k = g) w w') (hg : g < B) : NewT w' B t := h.chg hc fun k e => by omega
set_option maxHeartbeats 1500000 in
set_option maxRecDepth 100000 in
theorem p_group (s : ByteArray) (n m : Nat) (hn : s.size = n) (hbig : n ≤ 1099511627776) (hP : PatOK s n m) (rb i o : Nat) (w : World) (hi : i ≤ n) (him : n - i + 1 ≤ m) (ho : o ≤ 64) (hg : Gl w) (hrb : 0 < rb) (hr : RB w rb s i o) :
    Calls Tryz.prog 104 #[.pointer (some ⟨rb, 0, none⟩)] w fun e w' => TreeRet rb s i o n (fun _ => Run o .atom (40 :: (bsN s).drop i)) w e w' := by
  obtain ⟨h0, h1, h2, f1, f2⟩ := hr.cells
  have hrl := CB.lt hr
  have hne : w.heap.size ≠ rb := by omega
  have HZ := Lib.hid (CB.new w 42 zero8)
  have HS0 := Lib.hid ((RS.refl hr).alloc Z8)
  by_cases ho64 : o = 64
  · subst ho64
    go_enter Tryz.func104, Tryz.ntmps104
    go_wp2
    refine bodyPost_ret (results_cbT rfl rfl rfl HZ.out Tryz.underlying42 infoNode) rfl ?_
    exact ⟨i, 64, HS0.out, Nat.le_refl _, hi, .inr ⟨3, by decide, .atomDeep rfl, rfl⟩⟩
  · have hd : ((o : Int) == 64) = false := by simp; omega
    have HS1 : Hid (RS w ((w.setCell ⟨rb, 2, none⟩ (.int .i64 ((o : Int) + 1))).alloc Z8) rb s i (o + 1)) := RS.alloc (RS.open (RS.refl hr) (o + 1) (by go_num)) _
    have HZ1 : Hid (CB ((w.setCell ⟨rb, 2, none⟩ (.int .i64 ((o : Int) + 1))).alloc Z8) 42 w.heap.size zero8) := by
      have := CB.new (w.setCell ⟨rb, 2, none⟩ (.int .i64 ((o : Int) + 1))) 42 zero8
      rwa [World.size_setCell] at this
    have HG1 : Hid (Gl ((w.setCell ⟨rb, 2, none⟩ (.int .i64 ((o : Int) + 1))).alloc Z8)) := Gl.chg hg HS1.out.chg hrb
    have HSZ : Hid (((w.setCell ⟨rb, 2, none⟩ (.int .i64 ((o : Int) + 1))).alloc Z8).heap.size = w.heap.size + 1) := by show _ = _; rw [World.size_alloc, World.size_setCell]
    go_enter Tryz.func104, Tryz.ntmps104
    go_wp2_with (first | (go_at_call 44; ((refine (hP rb i (o + 1) _ hi him (by omega) HG1.out hrb HS1.out.box).mono ?_); rintro e w2 hT; replace hT := hT.split; obtain ⟨j, o', hs2, hj, hjn, ⟨k, S, mm, nn, a, l, c, ps, hN, rfl, hres, rfl⟩ | ⟨k, hk, hres, rfl⟩⟩ := hT; (all_goals first | (have HN := Lib.hid hN; have HR := Lib.hid hres; have HS2 := Lib.hid (HS1.out.trans hs2); have HZ2 := Lib.hid (CB.chg HZ1.out hs2.chg hne); clear hN hres) | (have hkb : (k != 0) = true := (by simpa using hk); have HR := Lib.hid hres; have HS2 := Lib.hid ((HS1.out.trans hs2).alloc Z8); have HZ2 := Lib.hid (CB.alloc (CB.chg HZ1.out hs2.chg hne) Z8); clear hres)))) | (refine wpl_storeS 42 (.tmp 2) _ rfl rfl (t := 42) (g := w.heap.size) (cur := zero8) (vs := #[.int .i64 0, .int .u64 0, .int .u64 0, .int .u64 0, .int .u64 0, .int .i64 0, .int .i64 0, .slice none 0 0]) ?_ ?_ ?_ ?_ ?_ ?_ ?_; exact HZ2.out; rfl; rfl; rfl; exact infoNode; rfl; intro w5 hc5 hch5 hsz5))
    · have hsz2 : w.heap.size + 1 ≤ w2.heap.size := by have := hs2.chg.size; have := HSZ.out; omega
      have hrb2 : rb < w2.heap.size := by omega
      have hneN : w2.heap.size ≠ rb := by omega
      have HB : Hid (CB (w2.alloc (.cells #[.int .i64 k, .int .u64 (S.a : Nat), .int .u64 (S.b : Nat), .int .u64 (S.c : Nat), .int .u64 (S.d : Nat), .int .i64 mm, .int .i64 nn, .slice a l c] 42)) 42 w2.heap.size [.int .i64 k, .int .u64 (S.a : Nat), .int .u64 (S.b : Nat), .int .u64 (S.c : Nat), .int .u64 (S.d : Nat), .int .i64 mm, .int .i64 nn, .slice a l c]) := CB.new w2 _ _
      have HBX : Hid (RB (w2.alloc (.cells #[.int .i64 k, .int .u64 (S.a : Nat), .int .u64 (S.b : Nat), .int .u64 (S.c : Nat), .int .u64 (S.d : Nat), .int .i64 mm, .int .i64 nn, .slice a l c] 42)) rb s j (o + 1)) := CB.alloc hs2.box _
      have HSX : Hid (RS w (w2.alloc (.cells #[.int .i64 k, .int .u64 (S.a : Nat), .int .u64 (S.b : Nat), .int .u64 (S.c : Nat), .int .u64 (S.d : Nat), .int .i64 mm, .int .i64 nn, .slice a l c] 42)) rb s j (o + 1)) := HS2.out.alloc _
      have HZX : Hid (CB (w2.alloc (.cells #[.int .i64 k, .int .u64 (S.a : Nat), .int .u64 (S.b : Nat), .int .u64 (S.c : Nat), .int .u64 (S.d : Nat), .int .i64 mm, .int .i64 nn, .slice a l c] 42)) 42 w.heap.size zero8) := CB.alloc HZ2.out _
      by_cases h41 : ((bsN s).drop j).head? = some 41
      · obtain ⟨r, hr41⟩ : ∃ r, (bsN s).drop j = 41 :: r := by
          cases hd : (bsN s).drop j with
          | nil => rw [hd] at h41; cases h41
          | cons x r => rw [hd] at h41; simp at h41; exact ⟨r, by rw [h41]⟩
        obtain ⟨q1, _, q3⟩ := drop_cons hr41
        rw [bsN_len, hn] at q1
        have hj1 : j + 1 ≤ n := by omega
        have hp : Hid ((bsN ⟨#[41]⟩).isPrefixOf ((bsN s).drop j) = true) := by show _ = _; rw [hr41]; rfl
        have HR2 : Hid (Run o .atom (40 :: (bsN s).drop i) (.ok (NT.pt (.mk k S mm nn (.slice a l c) ps)) ((bsN s).drop (j + 1)))) := .atomGroup ho64 (by have := HR.out; rw [hr41, ← q3] at this; exact this)
        clear h41 hr41 q3 q1
        go_wp2_with (first | (go_at_call 59; (with_reducible refine (p_takes_yes rb s _ j (o + 1) _ n 1 hn hbig hj1 rfl hp.out HBX.out).mono ?_); rintro e w3 ⟨rfl, hs3⟩; have HN3 := Lib.hid (CB.chg HB.out hs3.chg hneN); have q0 := fun v => CB.eight (CB.other HN3.out ⟨rb, 2, none⟩ (fun e => hneN e.symm) v); have HZ3 := Lib.hid (CB.chg HZX.out hs3.chg hne); have HS3 := Lib.hid (HSX.out.trans hs3); have q1 := hs3.box.cells) | (refine wpl_storeS 42 (.tmp 2) _ rfl rfl (t := 42) (g := w.heap.size) (cur := zero8) (vs := #[.int .i64 k, .int .u64 (S.a : Nat), .int .u64 (S.b : Nat), .int .u64 (S.c : Nat), .int .u64 (S.d : Nat), .int .i64 mm, .int .i64 nn, .slice a l c]) ?_ ?_ ?_ ?_ ?_ ?_ ?_; exact CB.other HZ3.out ⟨rb, 2, none⟩ (fun e => hne e.symm) _; rfl; rfl; rfl; exact infoNode; rfl; intro w5 hc5 hch5 hsz5))
        refine bodyPost_ret (results_cbT rfl rfl rfl hc5 Tryz.underlying42 infoNode) rfl ?_
        have hS4 := RS.open HS3.out o (v := .int .i64 (o : Nat)) rfl
        refine ⟨j + 1, o, RS.put hS4 hch5 (Nat.le_refl _) hne, by omega, hj1, .inl ⟨.mk k S mm nn (.slice a l c) ps, ?_, rfl, HR2.out, rfl⟩⟩
        have hN2 := (HN.out.below (w' := w2.alloc (.cells #[.int .i64 k, .int .u64 (S.a : Nat), .int .u64 (S.b : Nat), .int .u64 (S.c : Nat), .int .u64 (S.d : Nat), .int .i64 mm, .int .i64 nn, .slice a l c] 42)) ((Below.refl _ _).alloc (Nat.le_refl _) _))
        rw [HSZ.out] at hN2
        exact (((hN2.put hs3.chg (by omega)).put (Chg.setCell (S := fun k => k = rb) (Chg.refl _ _) (p := ⟨rb, 2, none⟩) rfl _) (by omega)).put hch5 (by omega)).base (by omega)
      · have hp : Hid ((bsN ⟨#[41]⟩).isPrefixOf ((bsN s).drop j) = false) := by
          rw [Hid, Bool.eq_false_iff]
          intro hp
          apply h41
          cases hd : (bsN s).drop j with
          | nil => rw [hd] at hp; cases hp
          | cons x r =>
            rw [hd] at hp
            have hp : ((41 : Nat) == x && true) = true := hp
            simp at hp
            rw [hp]; rfl
        have HR2 : Hid (Run o .atom (40 :: (bsN s).drop i) (.no 100)) := .atomOpen ho64 HR.out h41
        clear h41
        go_wp2_with (first | (go_at_call 59; (with_reducible refine (p_takes_no rb s _ j (o + 1) _ n hn hjn hp.out HBX.out).mono ?_); rintro e w3 ⟨rfl, hs3⟩; have HZ3 := Lib.hid (CB.chg HZX.out hs3.chg hne); have HS3 := Lib.hid (HSX.out.trans hs3)) | (refine wpl_storeS 42 (.tmp 2) _ rfl rfl (t := 42) (g := w.heap.size) (cur := zero8) (vs := #[.int .i64 0, .int .u64 0, .int .u64 0, .int .u64 0, .int .u64 0, .int .i64 0, .int .i64 0, .slice none 0 0]) ?_ ?_ ?_ ?_ ?_ ?_ ?_; exact HZ3.out; rfl; rfl; rfl; exact infoNode; rfl; intro w5 hc5 hch5 hsz5))
        refine bodyPost_ret (results_cbT rfl rfl rfl hc5 Tryz.underlying42 infoNode) rfl ?_
        exact ⟨j, o + 1, RS.put HS3.out hch5 (Nat.le_refl _) hne, hj, hjn, .inr ⟨100, by decide, HR2.out, rfl⟩⟩
    · refine bodyPost_ret (results_cbT rfl rfl rfl hc5 Tryz.underlying42 infoNode) rfl ?_
      exact ⟨j, o', RS.put HS2.out hch5 (Nat.le_refl _) hne, hj, hjn, .inr ⟨k, hk, .atomErr ho64 HR.out, rfl⟩⟩
end Go.Proofs.YthhchpmlljfpjaaGreat
