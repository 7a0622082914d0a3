import Derived.Test.YthhchpmlljfpjaaGreatPtV
namespace Go.Proofs.YthhchpmlljfpjaaGreat
open Go.RowKit

/-! Pieces. -/
theorem NewT.keep {w w' : World} {B g : Nat} {t : NT} (h : NewT w B t) (hc : Chg (fun k => k = g) w w') (hg : g ∉ t.foot) : NewT w' B t :=
  ⟨NT.Own.chg hc t h.own fun _ hx e => hg (e ▸ hx), h.nodup⟩
theorem NewT.lt {w : World} {B : Nat} {t : NT} (h : NewT w B t) : ∀ g ∈ t.foot, B ≤ g ∧ g < w.heap.size := NT.Own.lt t h.own
theorem NewT.drewN {w : World} {B : Nat} {t : NT} (h : NewT w B t) (n : Nat) : NewT (w.drewN n) B t := ⟨NT.Own.chg ((Chg.refl (fun _ => False) _).drewN n) t h.own (fun _ _ h => h), h.nodup⟩
theorem repN_foot (m n : Int) (g : Nat) (t : NT) : (repN m n g t).foot = g :: t.foot := by unfold repN; rw [NT.foot_mk]; simp [Value.ownBlock]
/-- What is known at the head of a piece's loop. -/
structure PcL (w wr : World) (rb g4 : Nat) (s : ByteArray) (i o n : Nat) (t : NT) (cs : List Value) : Prop where
  rs : RS w wr rb s i o
  le : i ≤ n
  zero : CB wr 42 w.heap.size zero8
  node : CB wr 42 g4 cs
  new : NewT wr (w.heap.size + 1) t
  far : g4 ∉ t.foot
theorem PcL.drewN {w wr : World} {rb g4 : Nat} {s : ByteArray} {i o n : Nat} {t : NT} {cs : List Value} (h : PcL w wr rb g4 s i o n t cs) (k : Nat) : PcL w (wr.drewN k) rb g4 s i o n t cs := ⟨h.rs.drewN k, h.le, h.zero, h.node, h.new.drewN k, h.far⟩
theorem PcL.go {w wr w2 : World} {rb g4 : Nat} {s : ByteArray} {i j o n : Nat} {t : NT} {cs : List Value} (h : PcL w wr rb g4 s i o n t cs) (k : RS wr w2 rb s j o) (hj : j ≤ n) (hrb : rb < w.heap.size) (hg4 : w.heap.size < g4) : PcL w w2 rb g4 s j o n t cs :=
  ⟨h.rs.trans k, hj, CB.chg h.zero k.chg (by omega), CB.chg h.node k.chg (by omega), h.new.keep k.chg (fun hm => by have := h.new.lt _ hm; omega), h.far⟩
theorem PcL.below {w wr w2 : World} {rb g4 : Nat} {s : ByteArray} {i o n : Nat} {t : NT} {cs : List Value} (h : PcL w wr rb g4 s i o n t cs) (hb : Below wr.heap.size wr w2) : PcL w w2 rb g4 s i o n t cs :=
  ⟨h.rs.below hb, h.le, CB.below h.zero hb, CB.below h.node hb, h.new.below hb, h.far⟩
theorem PcL.put {w wr w2 : World} {rb g4 : Nat} {s : ByteArray} {i o n : Nat} {t : NT} {cs cs' : List Value} (h : PcL w wr rb g4 s i o n t cs) (k : Chg (fun k => k = g4) wr w2) (hc : CB w2 42 g4 cs') (hrb : rb < w.heap.size) (hg4 : w.heap.size < g4) : PcL w w2 rb g4 s i o n t cs' :=
  ⟨RS.put h.rs k (by omega) (by omega), h.le, CB.chg h.zero k (by omega), hc, h.new.keep k h.far, h.far⟩
theorem PcL.rep {w wr w2 : World} {rb g4 : Nat} {s : ByteArray} {i o n g : Nat} {t : NT} {cs : List Value} (m k : Int) (h : PcL w wr rb g4 s i o n t cs) (hg : wr.heap.size ≤ g) (hc : CB w2 42 g t.cells) (hb : Below wr.heap.size wr w2) : PcL w w2 rb g4 s i o n (repN m k g t) cs :=
  ⟨h.rs.below hb, h.le, CB.below h.zero hb, CB.below h.node hb, repN_new h.new (by have := CB.lt h.zero; omega) hg hc hb, by rw [repN_foot]; have := CB.lt h.node; simp; exact ⟨by omega, h.far⟩⟩
set_option maxHeartbeats 3000000 in
set_option maxRecDepth 100000 in
theorem p_piece (s : ByteArray) (n m : Nat) (hn : s.size = n) (hbig : n ≤ 1099511627776) (hn32 : n < 4294967281) (hP : PatOK s n m) (rb i0 o : Nat) (w : World) (hin : i0 < n) (him : n - i0 ≤ m) (ho : o ≤ 64) (hg : Gl w) (hrb : 0 < rb) (hr : RB w rb s i0 o) :
    Calls Tryz.prog 80 #[.pointer (some ⟨rb, 0, none⟩)] w fun e w' => TreeRet rb s i0 o n (fun _ => Run o .piece ((bsN s).drop i0)) w e w' := by
  have hrl := CB.lt hr
  have hne : w.heap.size ≠ rb := by omega
  have HX : Hid (RB (w.alloc Z8) rb s i0 o) := CB.alloc hr _
  have HZ : Hid (CB (w.alloc Z8) 42 w.heap.size zero8) := CB.new w _ _
  have HS0 := Lib.hid ((RS.refl hr).alloc Z8)
  have HG : Hid (Gl (w.alloc Z8)) := hg.below ((Below.refl _ _).alloc (Nat.le_refl _) _)
  have HSZ : Hid ((w.alloc Z8).heap.size = w.heap.size + 1) := World.size_alloc _ _
  go_enter Tryz.func80, Tryz.ntmps80
  go_wp2_with (first | (go_at_call 93; ((refine (p_atom s n m hn hbig hn32 hP rb i0 o _ hin him ho HG.out hrb HX.out).mono ?_); rintro e w1 hT; replace hT := hT.split; obtain ⟨j, o', hs1, hj, hjn, ⟨k, S, mm, nn, a, l, c', ps, hN, rfl, hres, rfl⟩ | ⟨k, hk, hres, rfl⟩⟩ := hT; (all_goals first | (have HN := Lib.hid hN; have HR := Lib.hid hres; have HS1 := Lib.hid (HS0.out.trans hs1); have HZ1 := Lib.hid (CB.chg HZ.out hs1.chg hne); clear hN hres) | (have hkb : (k != 0) = true := (by simpa using hk); have HR := Lib.hid hres; have HS1 := Lib.hid ((HS0.out.trans hs1).alloc Z8); have HZ1 := Lib.hid (CB.alloc (CB.chg HZ.out hs1.chg hne) Z8); clear hres)))) | (refine wpl_storeS 42 (.tmp 2) _ rfl rfl (t := 42) (g := w.heap.size) (cur := zero8) (vs := #[.int .i64 0, .int .u64 0, .int .u64 0, .int .u64 0, .int .u64 0, .int .i64 0, .int .i64 0, .slice none 0 0]) ?_ ?_ ?_ ?_ ?_ ?_ ?_; exact HZ1.out; rfl; rfl; rfl; exact infoNode; rfl; intro w5 hc5 hch5 hsz5))
  · obtain ⟨g4, hg4⟩ : ∃ g4, w1.heap.size = g4 := ⟨_, rfl⟩
    have hsz1 : w.heap.size + 1 ≤ w1.heap.size := by have := hs1.chg.size; have := HSZ.out; omega
    have hgl : w.heap.size < g4 := by omega
    have H0 : Hid (PcL w (w1.alloc (.cells #[.int .i64 k, .int .u64 (S.a : Nat), .int .u64 (S.b : Nat), .int .u64 (S.c : Nat), .int .u64 (S.d : Nat), .int .i64 mm, .int .i64 nn, .slice a l c'] 42)) rb g4 s j o n (.mk k S mm nn (.slice a l c') ps) [.int .i64 k, .int .u64 (S.a : Nat), .int .u64 (S.b : Nat), .int .u64 (S.c : Nat), .int .u64 (S.d : Nat), .int .i64 mm, .int .i64 nn, .slice a l c']) := by
      have hN2 := HN.out
      rw [HSZ.out] at hN2
      refine ⟨HS1.out.alloc _, hjn, CB.alloc HZ1.out _, by rw [← hg4]; exact CB.new w1 _ _, hN2.below ((Below.refl _ _).alloc (Nat.le_refl _) _), fun hm => by have := (hN2.lt _ hm).2; omega⟩
    have HQ : Hid (∀ res, Run o (.rep (NT.pt (.mk k S mm nn (.slice a l c') ps))) ((bsN s).drop j) res → Run o .piece ((bsN s).drop i0) res) := fun res hres => .pieceOk HR.out hres
    rw [hg4]
    have hjl : i0 ≤ j := hj
    clear HN HR HS1 HZ1 hs1 hg4 hsz1 HS0 HZ HX hj
    go_loopw [6] (fun _ wr => ∃ (i : Nat) (k : Int) (S : S4) (mm nn : Int) (a : Option Addr) (l c' : Nat) (ps : List NT), i0 ≤ i ∧ Hid (PcL w wr rb g4 s i o n (.mk k S mm nn (.slice a l c') ps) [.int .i64 k, .int .u64 (S.a : Nat), .int .u64 (S.b : Nat), .int .u64 (S.c : Nat), .int .u64 (S.d : Nat), .int .i64 mm, .int .i64 nn, .slice a l c']) ∧ Hid (∀ res, Run o (.rep (NT.pt (.mk k S mm nn (.slice a l c') ps))) ((bsN s).drop i) res → Run o .piece ((bsN s).drop i0) res)) (fun _ wr => n - posAt wr rb)
    case atStart => exact ⟨j, k, S, mm, nn, a, l, c', ps, hjl, H0.out, HQ.out⟩
    case round =>
      clear H0 HQ
      obtain ⟨i, k, S, mm, nn, a, l, c', ps, hii, HL, HQ⟩ := hrel
      obtain ⟨B, hB0⟩ : ∃ B, B = true ↔ hd isRep ((bsN s).drop i) := by
        by_cases h : hd isRep ((bsN s).drop i)
        · exact ⟨true, by simp [h]⟩
        · exact ⟨false, by simp [h]⟩
      have hB := Lib.hid hB0
      cases B
      · have HR : Hid (Run o .piece ((bsN s).drop i0) (.ok (NT.pt (.mk k S mm nn (.slice a l c') ps)) ((bsN s).drop i))) := HQ.out _ (.repEnd fun h => by have := hB0.2 h; cases this)
        clear hB0
        go_wp2_with (first | (go_at_call 94; (with_reducible refine (p_repeats rb s i o _ n hn hbig HL.out.le _ hB.out HL.out.rs.box).mono ?_); rintro e w2 ⟨rfl, md, rfl⟩; have HL1 := Lib.hid (HL.out.drewN md); have q8 := CB.eight HL1.out.node) | (refine wpl_storeS 42 (.tmp 2) _ rfl rfl (t := 42) (g := w.heap.size) (cur := zero8) (vs := #[.int .i64 k, .int .u64 (S.a : Nat), .int .u64 (S.b : Nat), .int .u64 (S.c : Nat), .int .u64 (S.d : Nat), .int .i64 mm, .int .i64 nn, .slice a l c']) ?_ ?_ ?_ ?_ ?_ ?_ ?_; exact HL1.out.zero; rfl; rfl; rfl; exact infoNode; rfl; intro w5 hc5 hch5 hsz5))
        refine bodyPost_ret (results_cbT rfl rfl rfl hc5 Tryz.underlying42 infoNode) rfl ?_
        exact ⟨i, o, RS.put HL1.out.rs hch5 (Nat.le_refl _) hne, hii, HL1.out.le, .inl ⟨.mk k S mm nn (.slice a l c') ps, ((HL1.out.new.put hch5 (by omega)).base (by omega)), rfl, HR.out, rfl⟩⟩
      · have hrep := Lib.hid (hB0.1 rfl)
        clear hB0
        go_wp2_with (first | (go_at_call 94; (with_reducible refine (p_repeats rb s i o _ n hn hbig HL.out.le _ hB.out HL.out.rs.box).mono ?_); rintro e w2 ⟨rfl, md, rfl⟩; have HL1 := Lib.hid (HL.out.drewN md); have q8 := CB.eight HL1.out.node) | (go_at_call 95; (with_reducible refine (p_times rb s i o _ n hn hbig hn32 (Gl.chg hg HL1.out.rs.chg hrb) hrb hrep.out HL1.out.rs.box).mono ?_); rintro e w3 ⟨j, x, y, z, hs3, hj, hjn, rfl, ⟨rfl, hij, hT⟩ | ⟨rfl, hno⟩⟩; (all_goals have HL3 := Lib.hid (HL1.out.go hs3 hjn hrl hgl); have q9 := CB.eight HL3.out.node); (first | (have HT := Lib.hid hT; clear hT) | skip)) | (go_at_call 96; (refine (p_repeated (.mk k S mm nn (.slice a l c') ps) x y _).mono ?_); rintro e w4 ⟨gn, rfl, hgn, hcn, hb4⟩; have HL4 := Lib.hid (HL3.out.rep x y hgn hcn hb4)) | (refine wpl_storeS 42 (.tmp 2) _ rfl rfl (t := 42) (g := w.heap.size) (cur := zero8) (vs := #[.int .i64 0, .int .u64 0, .int .u64 0, .int .u64 0, .int .u64 0, .int .i64 0, .int .i64 0, .slice none 0 0]) ?_ ?_ ?_ ?_ ?_ ?_ ?_; exact HL3.out.zero; rfl; rfl; rfl; exact infoNode; rfl; intro w5 hc5 hch5 hsz5) | (refine wpl_storeS 42 (.tmp 4) _ rfl rfl (t := 42) (g := g4) (cur := [.int .i64 k, .int .u64 (S.a : Nat), .int .u64 (S.b : Nat), .int .u64 (S.c : Nat), .int .u64 (S.d : Nat), .int .i64 mm, .int .i64 nn, .slice a l c']) (vs := #[.int .i64 6, .int .u64 0, .int .u64 0, .int .u64 0, .int .u64 0, .int .i64 x, .int .i64 y, .slice (some ⟨gn, 0, none⟩) 1 1]) ?_ ?_ ?_ ?_ ?_ ?_ ?_; exact HL4.out.node; rfl; rfl; rfl; exact infoNode; rfl; intro w5 hc5 hch5 hsz5))
        · have HN : Hid (PcL w w5 rb g4 s j o n (repN x y gn (.mk k S mm nn (.slice a l c') ps)) [.int .i64 6, .int .u64 0, .int .u64 0, .int .u64 0, .int .u64 0, .int .i64 x, .int .i64 y, .slice (some ⟨gn, 0, none⟩) 1 1]) := HL4.out.put hch5 hc5 hrl hgl
          have HQ2 : Hid (∀ res, Run o (.rep (NT.pt (repN x y gn (.mk k S mm nn (.slice a l c') ps)))) ((bsN s).drop j) res → Run o .piece ((bsN s).drop i0) res) := fun res hres => HQ.out _ (.repOk HT.out (by rw [repN_pt] at hres; exact hres))
          have hpos := HN.out.rs.box.pos
          have hpos0 := HL.out.rs.box.pos
          go_wp2
          go_roundw
          case rel => exact ⟨j, by omega, 6, .zero, x, y, some ⟨gn, 0, none⟩, 1, 1, [.mk k S mm nn (.slice a l c') ps], HN.out, HQ2.out⟩
          case measure => rw [hpos, hpos0]; omega
        · have HR : Hid (Run o .piece ((bsN s).drop i0) (.no 105)) := HQ.out _ (.repErr hrep.out hno)
          refine bodyPost_ret (results_cbT rfl rfl rfl hc5 Tryz.underlying42 infoNode) rfl ?_
          exact ⟨j, o, RS.put HL3.out.rs hch5 (Nat.le_refl _) hne, by omega, hjn, .inr ⟨105, by decide, HR.out, rfl⟩⟩
  · refine bodyPost_ret (results_cbT rfl rfl rfl hc5 Tryz.underlying42 infoNode) rfl ?_
    exact ⟨j, o', RS.put HS1.out hch5 (Nat.le_refl _) hne, hj, hjn, .inr ⟨k, hk, .pieceErr HR.out, rfl⟩⟩
end Go.Proofs.YthhchpmlljfpjaaGreat
