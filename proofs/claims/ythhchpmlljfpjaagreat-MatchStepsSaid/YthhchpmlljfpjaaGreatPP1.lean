import Derived.Test.YthhchpmlljfpjaaGreatPtX
import Derived.Test.YthhchpmlljfpjaaGreatPuA
import Derived.Test.YthhchpmlljfpjaaGreatPuD
import Derived.Test.YthhchpmlljfpjaaGreatPuN
namespace Go.Proofs.YthhchpmlljfpjaaGreat
open Go.RowKit

section
/-! Patterns, Parse. -/
set_option maxHeartbeats 3000000 in
set_option maxRecDepth 100000 in
theorem p_pattern (s : ByteArray) (n m : Nat) (hn : s.size = n) (hbig : n ≤ 1099511627774) (hn32 : n < 4294967281) (hP : PatOK s n m) (rb i0 o : Nat) (w : World) (hi0 : i0 ≤ n) (him : n - i0 ≤ m) (ho : o ≤ 64) (hg : Gl w) (hrb : 0 < rb) (hr : RB w rb s i0 o) :
    Calls Tryz.prog 44 #[.pointer (some ⟨rb, 0, none⟩)] w fun e w' => TreeRet rb s i0 o n (fun _ => Run o (.pat []) ((bsN s).drop i0)) w e w' := by
  have hrl := CB.lt hr
  have hne : w.heap.size ≠ rb := by omega
  have hbl : (bsN s).length = n := by rw [bsN_len, hn]
  have HBL := Lib.hid hbl
  clear hbl
  go_enter Tryz.func44, Tryz.ntmps44
  go_wp2
  go_loopw [4, 5] (fun pv mv wr => ∃ (B : Bool) (i : Nat) (ps : List NT) (pa : Option Addr) (pl pc : Nat), mv = .bool B ∧ pv = .slice pa pl pc ∧ i0 ≤ i ∧ ps.length ≤ (i - i0) + (if B then 0 else 1) ∧ Hid (AlL w wr rb s i o n (.slice pa pl pc) ps) ∧ Hid (B = true → ∀ res, Run o (.pat (ps.map NT.pt)) ((bsN s).drop i) res → Run o (.pat []) ((bsN s).drop i0) res) ∧ Hid (B = false → Run o (.pat []) ((bsN s).drop i0) (.ok (joinT 5 (ps.map NT.pt)) ((bsN s).drop i)))) (fun _ mv wr => 2 * (n - posAt wr rb) + (match mv with | .bool true => 1 | _ => 0))
  case atStart => exact ⟨true, i0, [], none, 0, 0, rfl, rfl, Nat.le_refl _, by simp, ⟨(RS.refl hr).alloc _, hi0, CB.new w _ zero8, partsN_nil _ _⟩, fun _ _ h => h, fun h => by cases h⟩
  case round =>
    obtain ⟨B, i, ps, pa, pl, pc, rfl, rfl, hii, hcnt, HL, HQ, HF⟩ := hrel
    have hin := HL.out.le
    have HX := Lib.hid HL.out.rs.box
    cases B
    · have HR := Lib.hid (HF.out rfl)
      clear HF HQ
      go_wp2_with (first | (go_at_call 61; (refine (q_joined 5 HL.out.new).mono ?_); rintro e w3 ⟨k, S, mm, nn, a, l, c', qs, hjn, rfl, hb3⟩; have HL3 := Lib.hid (HL.out.below hb3)) | (refine wpl_storeS 42 (.tmp 2) _ rfl rfl (t := 42) (g := w.heap.size) (cur := zero8) (vs := #[.int .i64 k, .int .u64 (S.a : Nat), .int .u64 (S.b : Nat), .int .u64 (S.c : Nat), .int .u64 (S.d : Nat), .int .i64 mm, .int .i64 nn, .slice a l c']) ?_ ?_ ?_ ?_ ?_ ?_ ?_; exact HL3.out.zero; rfl; rfl; rfl; exact infoNode; rfl; intro w5 hc5 hch5 hsz5))
      refine bodyPost_ret (results_cbT rfl rfl rfl hc5 Tryz.underlying42 infoNode) rfl ?_
      refine ⟨i, o, RS.put HL3.out.rs hch5 (Nat.le_refl _) hne, hii, HL3.out.le, .inl ⟨.mk k S mm nn (.slice a l c') qs, ?_, rfl, by rw [← hjn.out, joinN_pt]; exact HR.out, rfl⟩⟩
      have := HL3.out.new.join 5
      rw [hjn.out] at this
      exact (this.put hch5 (by omega)).base (by omega)
    · have HQ1 := Lib.hid (HQ.out rfl)
      have him2 : n - i ≤ m := by omega
      have hcnt0 : ps.length ≤ i - i0 := by simpa using hcnt
      have hcnt1 : ps.length + 1 ≤ 1099511627776 := by omega
      clear HF HQ hcnt
      go_wp2_with (first | (go_at_call 60; ((refine (p_alternative s n m hn (by omega) hn32 hP rb i o _ hin him2 ho (Gl.chg hg HL.out.rs.chg hrb) hrb HX.out).mono ?_); rintro e w2 hT; replace hT := hT.split; obtain ⟨j, o', hs2, hj, hjn, ⟨k, S, mm, nn, a, l, c', qs, hN, rfl, hres, rfl⟩ | ⟨k, hk, hres, rfl⟩⟩ := hT; (all_goals first | (have HA := Lib.hid (AlA.make (g6 := w2.heap.size + 1) HL.out hs2 hjn hrl hN (((Below.refl _ _).alloc (Nat.le_refl _) (.cells #[.int .i64 k, .int .u64 (S.a : Nat), .int .u64 (S.b : Nat), .int .u64 (S.c : Nat), .int .u64 (S.d : Nat), .int .i64 mm, .int .i64 nn, .slice a l c'] 42)).alloc (by go_size) (.cells #[.int .i64 k, .int .u64 (S.a : Nat), .int .u64 (S.b : Nat), .int .u64 (S.c : Nat), .int .u64 (S.d : Nat), .int .i64 mm, .int .i64 nn, .slice a l c'] 42)) (cb2 w2 (.cells #[.int .i64 k, .int .u64 (S.a : Nat), .int .u64 (S.b : Nat), .int .u64 (S.c : Nat), .int .u64 (S.d : Nat), .int .i64 mm, .int .i64 nn, .slice a l c'] 42) 42 [.int .i64 k, .int .u64 (S.a : Nat), .int .u64 (S.b : Nat), .int .u64 (S.c : Nat), .int .u64 (S.d : Nat), .int .i64 mm, .int .i64 nn, .slice a l c'])); have HR := Lib.hid hres; clear hN hres) | (have hkb : (k != 0) = true := (by simpa using hk); have HR := Lib.hid hres; have HS1 := Lib.hid ((HL.out.rs.trans hs2).alloc Z8); have HZ1 := Lib.hid (CB.alloc (CB.chg HL.out.zero hs2.chg hne) Z8); clear hres)))) | (at_builtin; refine wpl_appS 40 42 Tryz.underlying40 infoNode3 rfl (by decide) (by decide) rfl _ _ rfl (w.heap.size + 1) (.slice pa pl pc) ps.length (ps.flatMap NT.cells) rfl HA.out.row (w2.heap.size + 1) (nodeCells k S mm nn (.slice a l c')) rfl rfl ?_ ?_ ?_ ?_ ?_; exact fun x u hx => (CB.cell HA.out.new1 x).trans hx; exact all_one (by rfl); exact hcnt1; exact HA.out.base; intro g5 cap5 w5 hown5 hgr5 hBg5 hlt5 hor5) | (refine wpl_storeS 42 (.tmp 2) _ rfl rfl (t := 42) (g := w.heap.size) (cur := zero8) (vs := #[.int .i64 0, .int .u64 0, .int .u64 0, .int .u64 0, .int .u64 0, .int .i64 0, .int .i64 0, .slice none 0 0]) ?_ ?_ ?_ ?_ ?_ ?_ ?_; exact HZ1.out; rfl; rfl; rfl; exact infoNode; rfl; intro w5 hc5 hch5 hsz5))
      · have HN : Hid (AlL w w5 rb s j o n (.slice (some ⟨g5, 0, none⟩) (ps.length + 1) cap5) (ps ++ [NT.mk k S mm nn (.slice a l c') qs])) := HA.out.done hrl hown5 hgr5 (hor5.out.imp id (fun e => e))
        have hbx := HN.out.rs.box
        clear hown5 hgr5
        by_cases h124 : ((bsN s).drop j).head? = some 124
        · obtain ⟨r, hr124⟩ : ∃ r, (bsN s).drop j = 124 :: r := by
            cases hd : (bsN s).drop j with
            | nil => rw [hd] at h124; cases h124
            | cons x r => rw [hd] at h124; simp at h124; exact ⟨r, by rw [h124]⟩
          obtain ⟨q1, _, q3⟩ := drop_cons hr124
          rw [HBL.out] at q1
          have hj1 : j + 1 ≤ n := by omega
          have hp : Hid ((bsN ⟨#[124]⟩).isPrefixOf ((bsN s).drop j) = true) := by show _ = _; rw [hr124]; rfl
          have HQ2 : Hid (true = true → ∀ res, Run o (.pat ((ps ++ [NT.mk k S mm nn (.slice a l c') qs]).map NT.pt)) ((bsN s).drop (j + 1)) res → Run o (.pat []) ((bsN s).drop i0) res) := fun _ res hres => HQ1.out _ (.patMore (by have := HR.out; rw [hr124] at this; exact this) (by rw [List.map_append, q3] at hres; exact hres))
          clear h124 hr124 q1 q3
          go_wp2_with (go_at_call 59; (with_reducible refine (p_takes_yes rb s _ j o _ n 1 hn (by omega) hj1 rfl hp.out hbx).mono ?_); rintro e w6 ⟨rfl, hs6⟩)
          have HN6 : Hid (AlL w w6 rb s (j + 1) o n (.slice (some ⟨g5, 0, none⟩) (ps.length + 1) cap5) (ps ++ [NT.mk k S mm nn (.slice a l c') qs])) := HN.out.go hs6 hj1 hrl
          have hpos := HN6.out.rs.box.pos
          have hpos0 := HL.out.rs.box.pos
          go_roundw
          case rel => exact ⟨true, j + 1, ps ++ [NT.mk k S mm nn (.slice a l c') qs], _, _, _, rfl, rfl, by omega, by rw [List.length_append]; simp; omega, HN6.out, (fun _ => HQ2.out (by trivial)), fun h => by cases h⟩
          case measure => simp only [hpos, hpos0]; omega
        · have hp : Hid ((bsN ⟨#[124]⟩).isPrefixOf ((bsN s).drop j) = false) := Bool.eq_false_iff.2 fun hp => h124 (pre1.1 hp)
          have HF2 : Hid (false = false → Run o (.pat []) ((bsN s).drop i0) (.ok (joinT 5 ((ps ++ [NT.mk k S mm nn (.slice a l c') qs]).map NT.pt)) ((bsN s).drop j))) := fun _ => HQ1.out _ (by rw [List.map_append]; exact .patEnd HR.out h124)
          clear h124
          go_wp2_with (go_at_call 59; (with_reducible refine (p_takes_no rb s _ j o _ n hn hjn hp.out hbx).mono ?_); rintro e w6 ⟨rfl, hs6⟩)
          have HN6 : Hid (AlL w w6 rb s j o n (.slice (some ⟨g5, 0, none⟩) (ps.length + 1) cap5) (ps ++ [NT.mk k S mm nn (.slice a l c') qs])) := HN.out.go hs6 hjn hrl
          have hpos := HN6.out.rs.box.pos
          have hpos0 := HL.out.rs.box.pos
          go_roundw
          case rel => exact ⟨false, j, ps ++ [NT.mk k S mm nn (.slice a l c') qs], _, _, _, rfl, rfl, by omega, by rw [List.length_append]; simp; omega, HN6.out, (fun h => by cases h), fun _ => HF2.out (by trivial)⟩
          case measure => simp only [hpos, hpos0]; omega
      · refine bodyPost_ret (results_cbT rfl rfl rfl hc5 Tryz.underlying42 infoNode) rfl ?_
        exact ⟨j, o', RS.put HS1.out hch5 (Nat.le_refl _) hne, by omega, hjn, .inr ⟨k, hk, HQ1.out _ (.patErr HR.out), rfl⟩⟩
theorem pat_ok (s : ByteArray) (n : Nat) (hn : s.size = n) (hbig : n ≤ 4294967280) : ∀ m, PatOK s n m
  | 0 => fun rb i o w hi him => by omega
  | m + 1 => fun rb i o w hi him ho hg hrb hr => p_pattern s n m hn (by omega) (by omega) (pat_ok s n hn hbig m) rb i o w hi (by omega) ho hg hrb hr
/-- What reading a whole text comes to. -/
def ParseR (l : List Nat) (res : Except Nat PT) : Prop :=
  (1024 < l.length ∧ res = .error 3) ∨ (l.length ≤ 1024 ∧ ∃ f, Run 0 (.pat []) l f ∧ res = match f with | .no e => .error e | .ok t [] => .ok t | .ok _ _ => .error 100)
theorem ParseR.one {l : List Nat} {x y : Except Nat PT} (h : ParseR l x) (k : ParseR l y) : x = y := by
  rcases h with ⟨h1, h2⟩ | ⟨h1, f, h2, h3⟩ <;> rcases k with ⟨k1, k2⟩ | ⟨k1, g, k2, k3⟩
  · rw [h2, k2]
  · omega
  · omega
  · obtain rfl := h2.one k2
    rw [h3, k3]
theorem below_parse {w W1 w2 w5 : World} (h : Below w.heap.size w W1) (k : Chg (fun k => k = w.heap.size + 1) W1 w2) (k5 : Chg (fun k => k = w.heap.size) w2 w5) : Below w.heap.size w w5 := by
  have h1 := k.below (B := w.heap.size) h.size (fun x hx => by omega)
  have h2 := k5.below (B := w.heap.size) (Nat.le_trans h.size k.size) (fun x hx => by omega)
  exact (h.trans (h1.mono (Nat.le_refl _))).trans (h2.mono (Nat.le_refl _))
/-- What Parse answers. -/
def ParseRet (l : List Nat) (w : World) (e : Ending) (w' : World) : Prop :=
  Below w.heap.size w w' ∧ ((∃ (k : Int) (S : S4) (m n : Int) (a : Option Addr) (c d : Nat) (ps : List NT), NewT w' w.heap.size (.mk k S m n (.slice a c d) ps) ∧ ParseR l (.ok (NT.pt (.mk k S m n (.slice a c d) ps))) ∧ e = .returned (.tuple #[nodeVal k S m n (.slice a c d), .int .i64 0])) ∨
    ∃ k : Int, k ≠ 0 ∧ ParseR l (.error k.toNat) ∧ e = .returned (.tuple #[nodeVal 0 .zero 0 0 (.slice none 0 0), .int .i64 k]))
set_option maxHeartbeats 1500000 in
set_option maxRecDepth 100000 in
theorem p_parse (s : ByteArray) (n : Nat) (hn : s.size = n) (hbig : n ≤ 1099511627776) (w : World) (hg : Gl w) (hw : 0 + 2 ≤ w.heap.size) :
    Calls Tryz.prog 28 #[.string s] w fun e w' => ParseRet (bsN s) w e w' := by
  have HZ : Hid (CB (w.alloc Z8) 42 w.heap.size zero8) := CB.new w _ _
  have hbl : (bsN s).length = n := by rw [bsN_len, hn]
  by_cases hlim : 1024 < n
  · have HR : Hid (ParseR (bsN s) (.error 3)) := .inl ⟨by omega, rfl⟩
    clear hbl
    go_enter Tryz.func28, Tryz.ntmps28
    go_wp2
    refine bodyPost_ret (results_cbT rfl rfl rfl HZ.out Tryz.underlying42 infoNode) rfl ?_
    exact ⟨(Below.refl _ _).alloc (Nat.le_refl _) _, .inr ⟨3, by decide, HR.out, rfl⟩⟩
  · obtain ⟨W1, hW1⟩ : ∃ W1, (w.alloc Z8).alloc (.cells #[.string s, .int .i64 0, .int .i64 0] 84) = W1 := ⟨_, rfl⟩
    have hsz : W1.heap.size = w.heap.size + 2 := by rw [← hW1, World.size_alloc, World.size_alloc]
    have HB1 : Hid (Below w.heap.size w W1) := by rw [← hW1]; exact ((Below.refl _ _).alloc (Nat.le_refl _) _).alloc (by go_size) _
    have HX : Hid (RB W1 (w.heap.size + 1) s 0 0) := by
      rw [← hW1]
      exact cb2 w Z8 84 [.string s, .int .i64 0, .int .i64 0]
    have HZ1 : Hid (CB W1 42 w.heap.size zero8) := by rw [← hW1]; exact CB.alloc HZ.out _
    have HG1 : Hid (Gl W1) := by rw [← hW1]; exact (hg.below ((Below.refl _ _).alloc (Nat.le_refl _) _)).below ((Below.refl _ _).alloc (Nat.le_refl _) _)
    have hne : w.heap.size ≠ w.heap.size + 1 := by omega
    have hP := pat_ok s n hn (by omega) (n + 1)
    have HSZ := Lib.hid hsz
    have HBL := Lib.hid hbl
    have hlim2 : n ≤ 1024 := by omega
    have HW := Lib.hid hW1
    clear hsz hbl hW1
    go_enter Tryz.func28, Tryz.ntmps28
    go_wp2_with (first | (go_at_call 44; rw [HW.out]; ((refine (hP (w.heap.size + 1) 0 0 W1 (Nat.zero_le _) (by omega) (by omega) HG1.out (by omega) HX.out).mono ?_); rintro e w2 hT; replace hT := hT.split; obtain ⟨j, o', hs2, hj, hjn, ⟨k, S, mm, nn, a, l, c', qs, hN, rfl, hres, rfl⟩ | ⟨k, hk, hres, rfl⟩⟩ := hT; (all_goals first | (have HN := Lib.hid hN; have HR := Lib.hid hres; have HSx := Lib.hid (hs2.alloc (.cells #[.int .i64 k, .int .u64 (S.a : Nat), .int .u64 (S.b : Nat), .int .u64 (S.c : Nat), .int .u64 (S.d : Nat), .int .i64 mm, .int .i64 nn, .slice a l c'] 42)); have HZ2 := Lib.hid (CB.alloc (CB.chg HZ1.out hs2.chg hne) (.cells #[.int .i64 k, .int .u64 (S.a : Nat), .int .u64 (S.b : Nat), .int .u64 (S.c : Nat), .int .u64 (S.d : Nat), .int .i64 mm, .int .i64 nn, .slice a l c'] 42)); clear hN hres) | (have hkb : (k != 0) = true := (by simpa using hk); have HR := Lib.hid hres; have HSx := Lib.hid (hs2.alloc Z8); have HZ2 := Lib.hid (CB.alloc (CB.chg HZ1.out hs2.chg hne) Z8); clear hres)))) | (refine wpl_storeS 42 (.tmp 2) _ rfl rfl (t := 42) (g := w.heap.size) (cur := zero8) (vs := #[.int .i64 0, .int .u64 0, .int .u64 0, .int .u64 0, .int .u64 0, .int .i64 0, .int .i64 0, .slice none 0 0]) ?_ ?_ ?_ ?_ ?_ ?_ ?_; exact HZ2.out; rfl; rfl; rfl; exact infoNode; rfl; intro w5 hc5 hch5 hsz5))
    · by_cases hjn2 : j = n
      · have hdE : decide (j = n) = true := decide_eq_true hjn2
        have HPR : Hid (ParseR (bsN s) (.ok (NT.pt (.mk k S mm nn (.slice a l c') qs)))) := .inr ⟨by rw [HBL.out]; exact hlim2, _, HR.out, by rw [show (bsN s).drop j = [] from List.drop_eq_nil_of_le (by rw [HBL.out]; omega)]⟩
        have HNq : Hid (NewT (w2.alloc (.cells #[.int .i64 k, .int .u64 (S.a : Nat), .int .u64 (S.b : Nat), .int .u64 (S.c : Nat), .int .u64 (S.d : Nat), .int .i64 mm, .int .i64 nn, .slice a l c'] 42)) (w.heap.size + 2) (.mk k S mm nn (.slice a l c') qs)) := by
          have := HN.out.below (w' := w2.alloc (.cells #[.int .i64 k, .int .u64 (S.a : Nat), .int .u64 (S.b : Nat), .int .u64 (S.c : Nat), .int .u64 (S.d : Nat), .int .i64 mm, .int .i64 nn, .slice a l c'] 42)) ((Below.refl _ _).alloc (Nat.le_refl _) _)
          rw [HSZ.out] at this
          exact this
        clear hjn2
        go_wp2_with (first | (go_at_call 45; (with_reducible refine (p_ended (w.heap.size + 1) s j 0 _ n hn HSx.out.box).mono ?_); rintro e w3 ⟨rfl, md, rfl⟩; rw [hdE]; have HZ3 := Lib.hid (CB.drewN HZ2.out md)) | (refine wpl_storeS 42 (.tmp 2) _ rfl rfl (t := 42) (g := w.heap.size) (cur := zero8) (vs := #[.int .i64 k, .int .u64 (S.a : Nat), .int .u64 (S.b : Nat), .int .u64 (S.c : Nat), .int .u64 (S.d : Nat), .int .i64 mm, .int .i64 nn, .slice a l c']) ?_ ?_ ?_ ?_ ?_ ?_ ?_; exact HZ3.out; rfl; rfl; rfl; exact infoNode; rfl; intro w5 hc5 hch5 hsz5))
        refine bodyPost_ret (results_cbT rfl rfl rfl hc5 Tryz.underlying42 infoNode) rfl ?_
        refine ⟨below_parse HB1.out (hs2.chg.trans (((Chg.refl _ _).alloc _).drewN md)) hch5, .inl ⟨k, S, mm, nn, a, l, c', qs, ?_, HPR.out, rfl⟩⟩
        exact ((HNq.out.drewN md).put hch5 (by omega)).base (by omega)
      · have hdE : decide (j = n) = false := decide_eq_false hjn2
        have HPR : Hid (ParseR (bsN s) (.error 100)) := .inr ⟨by rw [HBL.out]; exact hlim2, _, HR.out, by
          have hlt : j < (bsN s).length := by rw [HBL.out]; omega
          rw [drop_at hlt]⟩
        clear hjn2
        go_wp2_with (first | (go_at_call 45; (with_reducible refine (p_ended (w.heap.size + 1) s j 0 _ n hn HSx.out.box).mono ?_); rintro e w3 ⟨rfl, md, rfl⟩; rw [hdE]; have HZ3 := Lib.hid (CB.drewN HZ2.out md)) | (refine wpl_storeS 42 (.tmp 2) _ rfl rfl (t := 42) (g := w.heap.size) (cur := zero8) (vs := #[.int .i64 0, .int .u64 0, .int .u64 0, .int .u64 0, .int .u64 0, .int .i64 0, .int .i64 0, .slice none 0 0]) ?_ ?_ ?_ ?_ ?_ ?_ ?_; exact HZ3.out; rfl; rfl; rfl; exact infoNode; rfl; intro w5 hc5 hch5 hsz5))
        refine bodyPost_ret (results_cbT rfl rfl rfl hc5 Tryz.underlying42 infoNode) rfl ?_
        exact ⟨below_parse HB1.out (hs2.chg.trans (((Chg.refl _ _).alloc _).drewN md)) hch5, .inr ⟨100, by decide, HPR.out, rfl⟩⟩
    · have HPR : Hid (ParseR (bsN s) (.error k.toNat)) := .inr ⟨by rw [HBL.out]; exact hlim2, _, HR.out, rfl⟩
      refine bodyPost_ret (results_cbT rfl rfl rfl hc5 Tryz.underlying42 infoNode) rfl ?_
      exact ⟨below_parse HB1.out (hs2.chg.trans ((Chg.refl _ _).alloc _)) hch5, .inr ⟨k, hk, HPR.out, rfl⟩⟩
end

section
/-! The laws' own check. -/
theorem p_parse_ok (s : ByteArray) (T : PT) (w : World) (hg : Gl w) (hw : 0 + 2 ≤ w.heap.size) (hl : (bsN s).length ≤ 1024) (hr : Run 0 (.pat []) (bsN s) (.ok T [])) :
    Calls Tryz.prog 28 #[.string s] w fun e w' => Below w.heap.size w w' ∧ ∃ (k : Int) (S : S4) (m n : Int) (a : Option Addr) (c d : Nat) (ps : List NT), NewT w' w.heap.size (.mk k S m n (.slice a c d) ps) ∧ (NT.mk k S m n (.slice a c d) ps).pt = T ∧ e = .returned (.tuple #[nodeVal k S m n (.slice a c d), .int .i64 0]) := by
  have hsz : s.size ≤ 1024 := by rw [← bsN_len]; exact hl
  refine (p_parse s s.size rfl (by omega) w hg hw).mono ?_
  rintro e w' ⟨hb, ⟨k, S, m, n, a, c, d, ps, hN, hP, rfl⟩ | ⟨k, hk, hP, rfl⟩⟩
  · have := hP.one (.inr ⟨hl, _, hr, rfl⟩)
    exact ⟨hb, k, S, m, n, a, c, d, ps, hN, by injection this, rfl⟩
  · have := hP.one (.inr ⟨hl, _, hr, rfl⟩)
    cases this
theorem p_parse_no (s : ByteArray) (E : Nat) (w : World) (hg : Gl w) (hw : 0 + 2 ≤ w.heap.size) (hl : (bsN s).length ≤ 1024) (hE : E ≠ 0) (hr : Run 0 (.pat []) (bsN s) (.no E)) :
    Calls Tryz.prog 28 #[.string s] w fun e w' => Below w.heap.size w w' ∧ ∃ k : Int, k.toNat = E ∧ e = .returned (.tuple #[nodeVal 0 .zero 0 0 (.slice none 0 0), .int .i64 k]) := by
  have hsz : s.size ≤ 1024 := by rw [← bsN_len]; exact hl
  refine (p_parse s s.size rfl (by omega) w hg hw).mono ?_
  rintro e w' ⟨hb, ⟨k, S, m, n, a, c, d, ps, hN, hP, rfl⟩ | ⟨k, hk, hP, rfl⟩⟩
  · have := hP.one (.inr ⟨hl, _, hr, rfl⟩)
    cases this
  · have := hP.one (.inr ⟨hl, _, hr, rfl⟩)
    exact ⟨hb, k, by injection this, rfl⟩
end

section
/-! The laws' own check holds. -/
theorem NT.num_of (t : NT) : may t.pt = true → setsOk t.pt → t.num := by
  induction t using NT.ind with
  | h k s m n p ps ih =>
    rw [NT.pt_len, Bool.and_eq_true, NT.pt_mk, setsOk, NT.num_mk]
    rintro ⟨hfit, hmay⟩ ⟨hs, hss⟩
    have hsub : ∀ t ∈ ps, t.num := fun t ht => ih t ht (mayL_mem hmay _ (List.mem_map_of_mem ht)) (setsOkL_mem hss _ (List.mem_map_of_mem ht))
    unfold fitT at hfit
    simp only [Bool.and_eq_true, Bool.or_eq_true, beq_iff_eq] at hfit
    obtain ⟨_, h2, h3⟩ := hfit
    unfold In64
    by_cases h6 : k = 6
    · subst h6
      have h4 : itv m n = true := by
        rw [if_neg (by decide), if_neg (by decide), if_pos rfl, Bool.and_eq_true] at h3
        exact h3.2
      unfold itv at h4
      simp only [Bool.and_eq_true, Bool.or_eq_true, decide_eq_true_eq, beq_iff_eq] at h4
      exact ⟨by omega, by omega, by omega, hs, hsub⟩
    · obtain ⟨rfl, rfl⟩ := h2.resolve_left h6
      have hk : k = 0 ∨ k = 1 ∨ k = 2 ∨ k = 3 ∨ k = 4 ∨ k = 5 := by
        by_cases q1 : k = 0 ∨ k = 1 ∨ k = 2 ∨ k = 3
        · omega
        · by_cases q2 : k = 4 ∨ k = 5
          · omega
          · rw [if_neg q1, if_neg q2, if_neg h6] at h3
            cases h3
      exact ⟨by omega, by omega, by omega, hs, hsub⟩
end
end Go.Proofs.YthhchpmlljfpjaaGreat
