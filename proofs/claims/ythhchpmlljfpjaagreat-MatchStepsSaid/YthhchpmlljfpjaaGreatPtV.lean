import Derived.Test.YthhchpmlljfpjaaGreatPtU
namespace Go.Proofs.YthhchpmlljfpjaaGreat
open Go.RowKit

/-! Atoms. -/
theorem leaf_ret {rb : Nat} {s : ByteArray} {i o n j : Nat} {p : Nat → Res PT → Prop} {w w' : World} {k : Int} {S : S4} (hs : RS w w' rb s j o) (hi : i ≤ j) (hj : j ≤ n) (hp : p j (.ok (.mk k S 0 0 []) ((bsN s).drop j))) :
    TreeRet rb s i o n p w (.returned (.tuple #[nodeVal k S 0 0 (.slice none 0 0), .int .i64 0])) w' :=
  ⟨j, o, hs, hi, hj, .inl ⟨leafN k S, leafN_new _ _ _ _, rfl, by rw [leafN_pt]; exact hp, rfl⟩⟩
set_option maxHeartbeats 3000000 in
set_option maxRecDepth 100000 in
theorem p_atom (s : ByteArray) (n m : Nat) (hn : s.size = n) (hbig : n ≤ 1099511627776) (hn32 : n < 4294967281) (hP : PatOK s n m) (rb i o : Nat) (w : World) (hin : i < n) (him : n - i ≤ m) (ho : o ≤ 64) (hg : Gl w) (hrb : 0 < rb) (hr : RB w rb s i o) :
    Calls Tryz.prog 93 #[.pointer (some ⟨rb, 0, none⟩)] w fun e w' => TreeRet rb s i o n (fun _ => Run o .atom ((bsN s).drop i)) w e w' := by
  have hrl := CB.lt hr
  have hne : w.heap.size ≠ rb := by omega
  have hi : i ≤ n := by omega
  have hi1 : i + 1 ≤ n := by omega
  have HX : Hid (RB (w.alloc Z8) rb s i o) := CB.alloc hr _
  have HZ : Hid (CB (w.alloc Z8) 42 w.heap.size zero8) := CB.new w _ _
  have HS0 := Lib.hid ((RS.refl hr).alloc Z8)
  have HG : Hid (Gl (w.alloc Z8)) := hg.below ((Below.refl _ _).alloc (Nat.le_refl _) _)
  have hl : (bsN s).length = n := by rw [bsN_len, hn]
  obtain ⟨c, hc0⟩ : ∃ c, at0 (bsN s) i = c := ⟨_, rfl⟩
  have ht : (bsN s).drop i = c :: (bsN s).drop (i + 1) := by rw [drop_at (by omega), hc0]
  have h8 : c < 256 := by rw [← hc0]; exact at8 s i
  have hc := Lib.hid hc0
  have HT := Lib.hid ht
  clear hc0
  by_cases hrep : isRep c
  · obtain ⟨B, hB0⟩ : ∃ B, B = true := ⟨_, rfl⟩
    have hB : Hid (B = true ↔ hd isRep ((bsN s).drop i)) := by show _ ↔ _; rw [ht]; exact ⟨fun _ => hrep, fun _ => hB0⟩
    have HR : Hid (Run o .atom ((bsN s).drop i) (.no 104)) := .atomRep (by rw [ht]; exact hrep)
    clear ht hl hrep
    subst hB0
    go_enter Tryz.func93, Tryz.ntmps93
    go_wp2_with (first | (go_at_call 94; (with_reducible refine (p_repeats rb s i o _ n hn hbig hi _ hB.out HX.out).mono ?_); rintro e w1 ⟨rfl, md, rfl⟩; have HX1 := Lib.hid (RB.drewN HX.out md); have HZ1 := Lib.hid (CB.drewN HZ.out md); have HS1 := Lib.hid (HS0.out.drewN md); have HG1 := Lib.hid (Gl.drewN HG.out md)) | (refine wpl_storeS 42 (.tmp 2) _ rfl rfl (t := 42) (g := w.heap.size) (cur := zero8) (vs := #[.int .i64 0, .int .u64 0, .int .u64 0, .int .u64 0, .int .u64 0, .int .i64 0, .int .i64 0, .slice none 0 0]) ?_ ?_ ?_ ?_ ?_ ?_ ?_; exact HZ1.out; rfl; rfl; rfl; exact infoNode; rfl; intro w5 hc5 hch5 hsz5))
    refine bodyPost_ret (results_cbT rfl rfl rfl hc5 Tryz.underlying42 infoNode) rfl ?_
    exact ⟨i, o, RS.put HS1.out hch5 (Nat.le_refl _) hne, Nat.le_refl _, hi, .inr ⟨104, by decide, HR.out, rfl⟩⟩
  obtain ⟨B, hB0⟩ : ∃ B, B = false := ⟨_, rfl⟩
  have hB : Hid (B = true ↔ hd isRep ((bsN s).drop i)) := by show _ ↔ _; rw [ht]; exact ⟨fun h => by (rw [hB0] at h; cases h), fun h => absurd h hrep⟩
  subst hB0
  clear ht hl
  by_cases q40 : c = 40
  · subst q40
    clear hrep
    go_enter Tryz.func93, Tryz.ntmps93
    go_wp2_with (first | (go_at_call 94; (with_reducible refine (p_repeats rb s i o _ n hn hbig hi _ hB.out HX.out).mono ?_); rintro e w1 ⟨rfl, md, rfl⟩; have HX1 := Lib.hid (RB.drewN HX.out md); have HZ1 := Lib.hid (CB.drewN HZ.out md); have HS1 := Lib.hid (HS0.out.drewN md); have HG1 := Lib.hid (Gl.drewN HG.out md)) | (go_at_call 103; (with_reducible refine (p_take_yes rb s i o _ n 40 hn hbig hin hc.out HX1.out).mono ?_); rintro e w2 ⟨rfl, hs⟩; have HZ2 := Lib.hid (CB.chg HZ1.out hs.chg hne); have HS2 := Lib.hid (HS1.out.trans hs); have HG2 := Lib.hid (Gl.chg HG1.out hs.chg hrb)) | (go_at_call 104; ((refine (p_group s n m hn hbig hP rb (i + 1) o _ hi1 (by omega) ho HG2.out hrb hs.box).mono ?_); rintro e w3 hT; replace hT := hT.split; obtain ⟨j, o', hs3, hj, hjn, ⟨k, S, mm, nn, a, l, c', ps, hN, rfl, hres, rfl⟩ | ⟨k, hk, hres, rfl⟩⟩ := hT; (all_goals have HR := Lib.hid hres; have HS3 := Lib.hid (HS2.out.trans hs3); have HZ3 := Lib.hid (CB.chg HZ2.out hs3.chg hne); clear hres))) | (refine wpl_storeS 42 (.tmp 2) _ rfl rfl (t := 42) (g := w.heap.size) (cur := zero8) (vs := #[.int .i64 k, .int .u64 (S.a : Nat), .int .u64 (S.b : Nat), .int .u64 (S.c : Nat), .int .u64 (S.d : Nat), .int .i64 mm, .int .i64 nn, .slice a l c']) ?_ ?_ ?_ ?_ ?_ ?_ ?_; exact HZ3.out; rfl; rfl; rfl; exact infoNode; rfl; intro w5 hc5 hch5 hsz5) | (refine wpl_storeS 42 (.tmp 2) _ rfl rfl (t := 42) (g := w.heap.size) (cur := zero8) (vs := #[.int .i64 0, .int .u64 0, .int .u64 0, .int .u64 0, .int .u64 0, .int .i64 0, .int .i64 0, .slice none 0 0]) ?_ ?_ ?_ ?_ ?_ ?_ ?_; exact HZ3.out; rfl; rfl; rfl; exact infoNode; rfl; intro w5 hc5 hch5 hsz5))
    · refine bodyPost_ret (results_cbT rfl rfl rfl hc5 Tryz.underlying42 infoNode) rfl ?_
      refine ⟨j, _, RS.put HS3.out hch5 (Nat.le_refl _) hne, by omega, hjn, .inl ⟨.mk k S mm nn (.slice a l c') ps, ?_, rfl, by rw [HT.out]; exact HR.out, rfl⟩⟩
      have hsz2 : w.heap.size < w2.heap.size := CB.lt HZ2.out
      exact (hN.put hch5 (by omega)).base (by omega)
    · refine bodyPost_ret (results_cbT rfl rfl rfl hc5 Tryz.underlying42 infoNode) rfl ?_
      exact ⟨j, o', RS.put HS3.out hch5 (Nat.le_refl _) hne, by omega, hjn, .inr ⟨k, hk, by rw [HT.out]; exact HR.out, rfl⟩⟩
  by_cases q91 : c = 91
  · subst q91
    clear hrep
    go_enter Tryz.func93, Tryz.ntmps93
    go_wp2_with (first | (go_at_call 94; (with_reducible refine (p_repeats rb s i o _ n hn hbig hi _ hB.out HX.out).mono ?_); rintro e w1 ⟨rfl, md, rfl⟩; have HX1 := Lib.hid (RB.drewN HX.out md); have HZ1 := Lib.hid (CB.drewN HZ.out md); have HS1 := Lib.hid (HS0.out.drewN md); have HG1 := Lib.hid (Gl.drewN HG.out md)) | (go_at_call 103; (with_reducible refine (p_take_yes rb s i o _ n 91 hn hbig hin hc.out HX1.out).mono ?_); rintro e w2 ⟨rfl, hs⟩; have HZ2 := Lib.hid (CB.chg HZ1.out hs.chg hne); have HS2 := Lib.hid (HS1.out.trans hs); have HG2 := Lib.hid (Gl.chg HG1.out hs.chg hrb)) | (go_at_call 105; ((refine (p_bracket rb s (i + 1) o _ n hn hbig hn32 hi1 HG2.out hrb hs.box).mono ?_); rintro e w3 hT; replace hT := hT.split; obtain ⟨j, o', hs3, hj, hjn, ⟨k, S, mm, nn, a, l, c', ps, hN, rfl, hres, rfl⟩ | ⟨k, hk, hres, rfl⟩⟩ := hT; (all_goals have HR := Lib.hid hres; have HS3 := Lib.hid (HS2.out.trans hs3); have HZ3 := Lib.hid (CB.chg HZ2.out hs3.chg hne); clear hres))) | (refine wpl_storeS 42 (.tmp 2) _ rfl rfl (t := 42) (g := w.heap.size) (cur := zero8) (vs := #[.int .i64 k, .int .u64 (S.a : Nat), .int .u64 (S.b : Nat), .int .u64 (S.c : Nat), .int .u64 (S.d : Nat), .int .i64 mm, .int .i64 nn, .slice a l c']) ?_ ?_ ?_ ?_ ?_ ?_ ?_; exact HZ3.out; rfl; rfl; rfl; exact infoNode; rfl; intro w5 hc5 hch5 hsz5) | (refine wpl_storeS 42 (.tmp 2) _ rfl rfl (t := 42) (g := w.heap.size) (cur := zero8) (vs := #[.int .i64 0, .int .u64 0, .int .u64 0, .int .u64 0, .int .u64 0, .int .i64 0, .int .i64 0, .slice none 0 0]) ?_ ?_ ?_ ?_ ?_ ?_ ?_; exact HZ3.out; rfl; rfl; rfl; exact infoNode; rfl; intro w5 hc5 hch5 hsz5))
    · refine bodyPost_ret (results_cbT rfl rfl rfl hc5 Tryz.underlying42 infoNode) rfl ?_
      refine ⟨j, _, RS.put HS3.out hch5 (Nat.le_refl _) hne, by omega, hjn, .inl ⟨.mk k S mm nn (.slice a l c') ps, ?_, rfl, by rw [HT.out]; exact .atomBrk HR.out, rfl⟩⟩
      have hsz2 : w.heap.size < w2.heap.size := CB.lt HZ2.out
      exact (hN.put hch5 (by omega)).base (by omega)
    · refine bodyPost_ret (results_cbT rfl rfl rfl hc5 Tryz.underlying42 infoNode) rfl ?_
      exact ⟨j, o', RS.put HS3.out hch5 (Nat.le_refl _) hne, by omega, hjn, .inr ⟨k, hk, by rw [HT.out]; exact .atomBrk HR.out, rfl⟩⟩
  by_cases q46 : c = 46
  · subst q46
    clear hrep
    go_enter Tryz.func93, Tryz.ntmps93
    go_wp2_with (first | (go_at_call 94; (with_reducible refine (p_repeats rb s i o _ n hn hbig hi _ hB.out HX.out).mono ?_); rintro e w1 ⟨rfl, md, rfl⟩; have HX1 := Lib.hid (RB.drewN HX.out md); have HZ1 := Lib.hid (CB.drewN HZ.out md); have HS1 := Lib.hid (HS0.out.drewN md); have HG1 := Lib.hid (Gl.drewN HG.out md)) | (go_at_call 103; (with_reducible refine (p_take_yes rb s i o _ n 46 hn hbig hin hc.out HX1.out).mono ?_); rintro e w2 ⟨rfl, hs⟩; have HZ2 := Lib.hid (CB.chg HZ1.out hs.chg hne); have HS2 := Lib.hid (HS1.out.trans hs); have HG2 := Lib.hid (Gl.chg HG1.out hs.chg hrb)) | (go_at_call 107; (with_reducible refine (p_every _).mono ?_); rintro e w3 ⟨S, rfl, hS, hb3⟩; have HZ3 := Lib.hid (CB.below HZ2.out hb3); have HS3 := Lib.hid (HS2.out.below hb3)) | (go_at_call 106; (with_reducible refine (p_setOf S _).mono ?_); rintro e w4 ⟨rfl, hb4⟩; have HZ4 := Lib.hid (CB.below HZ3.out hb4); have HS4 := Lib.hid (HS3.out.below hb4)) | (refine wpl_storeS 42 (.tmp 2) _ rfl rfl (t := 42) (g := w.heap.size) (cur := zero8) (vs := #[.int .i64 1, .int .u64 (S.a : Nat), .int .u64 (S.b : Nat), .int .u64 (S.c : Nat), .int .u64 (S.d : Nat), .int .i64 0, .int .i64 0, .slice none 0 0]) ?_ ?_ ?_ ?_ ?_ ?_ ?_; exact HZ4.out; rfl; rfl; rfl; exact infoNode; rfl; intro w5 hc5 hch5 hsz5))
    refine bodyPost_ret (results_cbT rfl rfl rfl hc5 Tryz.underlying42 infoNode) rfl ?_
    exact leaf_ret (RS.put HS4.out hch5 (Nat.le_refl _) hne) (by omega) hi1 (by rw [HT.out, hS.out]; exact .atomAny)
  by_cases q94 : c = 94
  · subst q94
    clear hrep
    go_enter Tryz.func93, Tryz.ntmps93
    go_wp2_with (first | (go_at_call 94; (with_reducible refine (p_repeats rb s i o _ n hn hbig hi _ hB.out HX.out).mono ?_); rintro e w1 ⟨rfl, md, rfl⟩; have HX1 := Lib.hid (RB.drewN HX.out md); have HZ1 := Lib.hid (CB.drewN HZ.out md); have HS1 := Lib.hid (HS0.out.drewN md); have HG1 := Lib.hid (Gl.drewN HG.out md)) | (go_at_call 103; (with_reducible refine (p_take_yes rb s i o _ n 94 hn hbig hin hc.out HX1.out).mono ?_); rintro e w2 ⟨rfl, hs⟩; have HZ2 := Lib.hid (CB.chg HZ1.out hs.chg hne); have HS2 := Lib.hid (HS1.out.trans hs); have HG2 := Lib.hid (Gl.chg HG1.out hs.chg hrb)) | (refine wpl_storeS 42 (.tmp 2) _ rfl rfl (t := 42) (g := w.heap.size) (cur := zero8) (vs := #[.int .i64 2, .int .u64 0, .int .u64 0, .int .u64 0, .int .u64 0, .int .i64 0, .int .i64 0, .slice none 0 0]) ?_ ?_ ?_ ?_ ?_ ?_ ?_; exact HZ2.out; rfl; rfl; rfl; exact infoNode; rfl; intro w5 hc5 hch5 hsz5))
    refine bodyPost_ret (results_cbT rfl rfl rfl hc5 Tryz.underlying42 infoNode) rfl ?_
    exact leaf_ret (S := .zero) (RS.put HS2.out hch5 (Nat.le_refl _) hne) (by omega) hi1 (by rw [HT.out]; exact .atomBegin)
  by_cases q36 : c = 36
  · subst q36
    clear hrep
    go_enter Tryz.func93, Tryz.ntmps93
    go_wp2_with (first | (go_at_call 94; (with_reducible refine (p_repeats rb s i o _ n hn hbig hi _ hB.out HX.out).mono ?_); rintro e w1 ⟨rfl, md, rfl⟩; have HX1 := Lib.hid (RB.drewN HX.out md); have HZ1 := Lib.hid (CB.drewN HZ.out md); have HS1 := Lib.hid (HS0.out.drewN md); have HG1 := Lib.hid (Gl.drewN HG.out md)) | (go_at_call 103; (with_reducible refine (p_take_yes rb s i o _ n 36 hn hbig hin hc.out HX1.out).mono ?_); rintro e w2 ⟨rfl, hs⟩; have HZ2 := Lib.hid (CB.chg HZ1.out hs.chg hne); have HS2 := Lib.hid (HS1.out.trans hs); have HG2 := Lib.hid (Gl.chg HG1.out hs.chg hrb)) | (refine wpl_storeS 42 (.tmp 2) _ rfl rfl (t := 42) (g := w.heap.size) (cur := zero8) (vs := #[.int .i64 3, .int .u64 0, .int .u64 0, .int .u64 0, .int .u64 0, .int .i64 0, .int .i64 0, .slice none 0 0]) ?_ ?_ ?_ ?_ ?_ ?_ ?_; exact HZ2.out; rfl; rfl; rfl; exact infoNode; rfl; intro w5 hc5 hch5 hsz5))
    refine bodyPost_ret (results_cbT rfl rfl rfl hc5 Tryz.underlying42 infoNode) rfl ?_
    exact leaf_ret (S := .zero) (RS.put HS2.out hch5 (Nat.le_refl _) hne) (by omega) hi1 (by rw [HT.out]; exact .atomEnd)
  by_cases q92 : c = 92
  · subst q92
    clear hrep
    by_cases hlast : i + 1 = n
    · have hnil : Hid ((bsN s).drop (i + 1) = []) := by show _ = _; exact List.drop_eq_nil_of_le (by rw [bsN_len]; omega)
      have hend : i + 1 = s.size := by omega
      go_enter Tryz.func93, Tryz.ntmps93
      go_wp2_with (first | (go_at_call 94; (with_reducible refine (p_repeats rb s i o _ n hn hbig hi _ hB.out HX.out).mono ?_); rintro e w1 ⟨rfl, md, rfl⟩; have HX1 := Lib.hid (RB.drewN HX.out md); have HZ1 := Lib.hid (CB.drewN HZ.out md); have HS1 := Lib.hid (HS0.out.drewN md); have HG1 := Lib.hid (Gl.drewN HG.out md)) | (go_at_call 103; (with_reducible refine (p_take_yes rb s i o _ n 92 hn hbig hin hc.out HX1.out).mono ?_); rintro e w2 ⟨rfl, hs⟩; have HZ2 := Lib.hid (CB.chg HZ1.out hs.chg hne); have HS2 := Lib.hid (HS1.out.trans hs); have HG2 := Lib.hid (Gl.chg HG1.out hs.chg hrb)) | (go_at_call 103; (with_reducible refine (p_take_no rb s (i + 1) o _ hend hs.box).mono ?_); rintro e w3 ⟨rfl, hs3⟩; have HZ3 := Lib.hid (CB.chg HZ2.out hs3.chg hne); have HS3 := Lib.hid (HS2.out.trans hs3)) | (refine wpl_storeS 42 (.tmp 2) _ rfl rfl (t := 42) (g := w.heap.size) (cur := zero8) (vs := #[.int .i64 0, .int .u64 0, .int .u64 0, .int .u64 0, .int .u64 0, .int .i64 0, .int .i64 0, .slice none 0 0]) ?_ ?_ ?_ ?_ ?_ ?_ ?_; exact HZ3.out; rfl; rfl; rfl; exact infoNode; rfl; intro w5 hc5 hch5 hsz5))
      refine bodyPost_ret (results_cbT rfl rfl rfl hc5 Tryz.underlying42 infoNode) rfl ?_
      exact ⟨i + 1, o, RS.put HS3.out hch5 (Nat.le_refl _) hne, by omega, hi1, .inr ⟨106, by decide, by rw [HT.out, hnil.out]; exact .atomEsc, rfl⟩⟩
    · have hin2 : i + 1 < n := by omega
      have hi2 : i + 1 + 1 ≤ n := by omega
      obtain ⟨d, hd0⟩ : ∃ d, at0 (bsN s) (i + 1) = d := ⟨_, rfl⟩
      have HT2 : Hid ((bsN s).drop (i + 1) = d :: (bsN s).drop (i + 1 + 1)) := by show _ = _; rw [drop_at (by rw [bsN_len]; omega), hd0]
      have hdc := Lib.hid hd0
      have hd8 : d < 256 := by rw [← hd0]; exact at8 s (i + 1)
      clear hd0
      go_enter Tryz.func93, Tryz.ntmps93
      go_wp2_with (first | (go_at_call 94; (with_reducible refine (p_repeats rb s i o _ n hn hbig hi _ hB.out HX.out).mono ?_); rintro e w1 ⟨rfl, md, rfl⟩; have HX1 := Lib.hid (RB.drewN HX.out md); have HZ1 := Lib.hid (CB.drewN HZ.out md); have HS1 := Lib.hid (HS0.out.drewN md); have HG1 := Lib.hid (Gl.drewN HG.out md)) | (go_at_call 103; (with_reducible refine (p_take_yes rb s i o _ n 92 hn hbig hin hc.out HX1.out).mono ?_); rintro e w2 ⟨rfl, hs⟩; have HZ2 := Lib.hid (CB.chg HZ1.out hs.chg hne); have HS2 := Lib.hid (HS1.out.trans hs); have HG2 := Lib.hid (Gl.chg HG1.out hs.chg hrb)) | (go_at_call 103; (with_reducible refine (p_take_yes rb s (i + 1) o _ n d hn hbig hin2 hdc.out hs.box).mono ?_); rintro e w3 ⟨rfl, hs3⟩; have HZ3 := Lib.hid (CB.chg HZ2.out hs3.chg hne); have HS3 := Lib.hid (HS2.out.trans hs3)) | (go_at_call 108; (with_reducible refine (p_only d _).mono ?_); rintro e w4 ⟨S, rfl, hS, hb4⟩; have HZ4 := Lib.hid (CB.below HZ3.out hb4); have HS4 := Lib.hid (HS3.out.below hb4)) | (go_at_call 106; (with_reducible refine (p_setOf S _).mono ?_); rintro e w6 ⟨rfl, hb6⟩; have HZ6 := Lib.hid (CB.below HZ4.out hb6); have HS6 := Lib.hid (HS4.out.below hb6)) | (refine wpl_storeS 42 (.tmp 2) _ rfl rfl (t := 42) (g := w.heap.size) (cur := zero8) (vs := #[.int .i64 1, .int .u64 (S.a : Nat), .int .u64 (S.b : Nat), .int .u64 (S.c : Nat), .int .u64 (S.d : Nat), .int .i64 0, .int .i64 0, .slice none 0 0]) ?_ ?_ ?_ ?_ ?_ ?_ ?_; exact HZ6.out; rfl; rfl; rfl; exact infoNode; rfl; intro w5 hc5 hch5 hsz5))
      refine bodyPost_ret (results_cbT rfl rfl rfl hc5 Tryz.underlying42 infoNode) rfl ?_
      exact leaf_ret (RS.put HS6.out hch5 (Nat.le_refl _) hne) (by omega) hi2 (by rw [HT.out, HT2.out, hS.out]; exact .atomLit)
  have HP : Hid (atomPlain c) := ⟨hrep, q40, q91, q46, q94, q36, q92⟩
  have e40 : ((c : Int) == 40) = false := by simp; omega
  have e91 : ((c : Int) == 91) = false := by simp; omega
  have e46 : ((c : Int) == 46) = false := by simp; omega
  have e94 : ((c : Int) == 94) = false := by simp; omega
  have e36 : ((c : Int) == 36) = false := by simp; omega
  have e92 : ((c : Int) == 92) = false := by simp; omega
  clear hrep q40 q91 q46 q94 q36 q92
  go_enter Tryz.func93, Tryz.ntmps93
  go_wp2_with (first | (go_at_call 94; (with_reducible refine (p_repeats rb s i o _ n hn hbig hi _ hB.out HX.out).mono ?_); rintro e w1 ⟨rfl, md, rfl⟩; have HX1 := Lib.hid (RB.drewN HX.out md); have HZ1 := Lib.hid (CB.drewN HZ.out md); have HS1 := Lib.hid (HS0.out.drewN md); have HG1 := Lib.hid (Gl.drewN HG.out md)) | (go_at_call 103; (with_reducible refine (p_take_yes rb s i o _ n c hn hbig hin hc.out HX1.out).mono ?_); rintro e w2 ⟨rfl, hs⟩; have HZ2 := Lib.hid (CB.chg HZ1.out hs.chg hne); have HS2 := Lib.hid (HS1.out.trans hs); have HG2 := Lib.hid (Gl.chg HG1.out hs.chg hrb)) | (go_at_call 108; (with_reducible refine (p_only c _).mono ?_); rintro e w4 ⟨S, rfl, hS, hb4⟩; have HZ4 := Lib.hid (CB.below HZ2.out hb4); have HS4 := Lib.hid (HS2.out.below hb4)) | (go_at_call 106; (with_reducible refine (p_setOf S _).mono ?_); rintro e w6 ⟨rfl, hb6⟩; have HZ6 := Lib.hid (CB.below HZ4.out hb6); have HS6 := Lib.hid (HS4.out.below hb6)) | (refine wpl_storeS 42 (.tmp 2) _ rfl rfl (t := 42) (g := w.heap.size) (cur := zero8) (vs := #[.int .i64 1, .int .u64 (S.a : Nat), .int .u64 (S.b : Nat), .int .u64 (S.c : Nat), .int .u64 (S.d : Nat), .int .i64 0, .int .i64 0, .slice none 0 0]) ?_ ?_ ?_ ?_ ?_ ?_ ?_; exact HZ6.out; rfl; rfl; rfl; exact infoNode; rfl; intro w5 hc5 hch5 hsz5))
  refine bodyPost_ret (results_cbT rfl rfl rfl hc5 Tryz.underlying42 infoNode) rfl ?_
  exact leaf_ret (RS.put HS6.out hch5 (Nat.le_refl _) hne) (by omega) hi1 (by rw [HT.out, hS.out]; exact .atomByte HP.out)
end Go.Proofs.YthhchpmlljfpjaaGreat
