import Derived.Test.YthhchpmlljfpjaaGreatPtD
import Derived.Test.YthhchpmlljfpjaaGreatPtW
namespace Go.Proofs.YthhchpmlljfpjaaGreat
open Go.RowKit

/-! Alternatives, patterns. -/
theorem all_one {cs : List Value} (h : (cs.all fun v => v.oneCell') = true) : ∀ u ∈ cs, u.oneCell' = true := List.all_eq_true.1 h
/-- Parts, in a row of the caller's. -/
@[reducible] def partsN (pv : Value) (ps : List NT) : NT := .mk 0 .zero 0 0 pv ps
theorem partsN_nil (w : World) (B : Nat) : NewT w B (partsN (.slice none 0 0) []) := leafN_new 0 .zero w B
theorem NewT.push {w w5 : World} {B g cap : Nat} {pv : Value} {ps : List NT} {t : NT} (hP : NewT w B (partsN pv ps)) (ht : NewT w B t) (hd : ∀ x ∈ (partsN pv ps).foot, x ∉ t.foot)
    (hown : w5.ownsRow B 42 8 (.slice (some ⟨g, 0, none⟩) (ps.length + 1) cap) (ps.length + 1) (ps.flatMap NT.cells ++ t.cells)) (hg : w.grownBy w5 pv.ownBlock) (hor : pv.ownBlock = some g ∨ g = w.heap.size) :
    NewT w5 B (partsN (.slice (some ⟨g, 0, none⟩) (ps.length + 1) cap) (ps ++ [t])) := by
  have hch := Chg.of_grown hg
  obtain ⟨h1, h2⟩ := NT.Own_mk.1 hP.own
  have hnd := hP.nodup
  rw [NT.foot_mk] at hnd hd
  have hpl := NT.Own.lt _ hP.own
  rw [NT.foot_mk] at hpl
  have htl := ht.lt
  have hpt : ∀ x, pv.ownBlock = some x → x ∉ t.foot := fun x hx => hd x (List.mem_append_left _ (by simp [hx]))
  have hps : ∀ x, pv.ownBlock = some x → x ∉ ps.flatMap NT.foot := fun x hx hm => by
    rw [hx] at hnd
    simp only [Option.toList_some, List.singleton_append, List.nodup_cons] at hnd
    exact hnd.1 hm
  refine ⟨NT.Own_mk.2 ⟨by rw [List.length_append, List.flatMap_append, List.flatMap_cons, List.flatMap_nil, List.append_nil]; exact hown, fun u hu => ?_⟩, ?_⟩
  · rcases List.mem_append.1 hu with hu | hu
    · exact NT.Own.chg hch u (h2 u hu) fun x hx e => hps x e.symm (List.mem_flatMap.2 ⟨u, hu, hx⟩)
    · obtain rfl : u = t := by simpa using hu
      exact NT.Own.chg hch u ht.own fun x hx e => hpt x e.symm hx
  · rw [NT.foot_mk, List.flatMap_append, List.flatMap_cons, List.flatMap_nil, List.append_nil]
    show (g :: (ps.flatMap NT.foot ++ t.foot)).Nodup
    have hnd2 : (ps.flatMap NT.foot).Nodup := (List.nodup_append.1 hnd).2.1
    refine List.nodup_cons.2 ⟨fun hm => ?_, List.nodup_append.2 ⟨hnd2, ht.nodup, fun x hx y hy e => hd x (List.mem_append_right _ hx) (e ▸ hy)⟩⟩
    rcases List.mem_append.1 hm with hm | hm
    · rcases hor with h | rfl
      · exact hps g h hm
      · have := (hpl _ (List.mem_append_right _ hm)).2; omega
    · rcases hor with h | rfl
      · exact hpt g h hm
      · have := (htl _ hm).2; omega
theorem NewT.join {w : World} {B : Nat} {pv : Value} {ps : List NT} (h : NewT w B (partsN pv ps)) (k : Int) : NewT w B (joinN k pv ps) := by
  match ps, h with
  | [], h => exact leafN_new _ _ _ _
  | [t], h =>
    refine ⟨(NT.Own_mk.1 h.own).2 t (by simp), ?_⟩
    have := h.nodup
    rw [NT.foot_mk] at this
    show t.foot.Nodup
    simpa using (List.nodup_append.1 this).2.1
  | a :: b :: t, h =>
    refine ⟨NT.Own_mk.2 (NT.Own_mk.1 h.own), ?_⟩
    have := h.nodup
    rw [NT.foot_mk] at this
    unfold joinN
    rw [NT.foot_mk]
    exact this
/-- The joined node, as it is answered. -/
theorem q_joined (k : Int) {pv : Value} {ps : List NT} {B : Nat} {w : World} (h : NewT w B (partsN pv ps)) :
    Calls Tryz.prog 61 #[.int .i64 k, pv] w fun e w' => ∃ (k' : Int) (S : S4) (mm nn : Int) (a : Option Addr) (l c : Nat) (qs : List NT), Hid (joinN k pv ps = .mk k' S mm nn (.slice a l c) qs) ∧ e = .returned (nodeVal k' S mm nn (.slice a l c)) ∧ Below w.heap.size w w' := by
  obtain ⟨h1, h2⟩ := NT.Own_mk.1 h.own
  refine (p_joined k pv ps B w h1 h2).mono fun e w' ⟨he, hb⟩ => ?_
  have hj := (h.join k).own
  obtain ⟨q, hq⟩ : ∃ q, joinN k pv ps = q := ⟨_, rfl⟩
  rw [hq] at hj he
  obtain ⟨k', S, mm, nn, p, qs⟩ := q
  obtain ⟨a, c, rfl⟩ := own_slice (NT.Own_mk.1 hj).1
  exact ⟨k', S, mm, nn, a, qs.length, c, qs, hq, he, hb⟩
/-- What is known at the head of a loop that collects parts. -/
structure AlL (w wr : World) (rb : Nat) (s : ByteArray) (i o n : Nat) (pv : Value) (ps : List NT) : Prop where
  rs : RS w wr rb s i o
  le : i ≤ n
  zero : CB wr 42 w.heap.size zero8
  new : NewT wr (w.heap.size + 1) (partsN pv ps)
theorem AlL.lt {w wr : World} {rb : Nat} {s : ByteArray} {i o n : Nat} {pv : Value} {ps : List NT} (h : AlL w wr rb s i o n pv ps) : w.heap.size < wr.heap.size := CB.lt h.zero
theorem AlL.drewN {w wr : World} {rb : Nat} {s : ByteArray} {i o n : Nat} {pv : Value} {ps : List NT} (h : AlL w wr rb s i o n pv ps) (k : Nat) : AlL w (wr.drewN k) rb s i o n pv ps := ⟨h.rs.drewN k, h.le, h.zero, h.new.drewN k⟩
theorem AlL.go {w wr w2 : World} {rb : Nat} {s : ByteArray} {i j o n : Nat} {pv : Value} {ps : List NT} (h : AlL w wr rb s i o n pv ps) (k : RS wr w2 rb s j o) (hj : j ≤ n) (hrb : rb < w.heap.size) : AlL w w2 rb s j o n pv ps :=
  ⟨h.rs.trans k, hj, CB.chg h.zero k.chg (by omega), h.new.keep k.chg (fun hm => by have := h.new.lt _ hm; omega)⟩
theorem AlL.below {w wr w2 : World} {rb : Nat} {s : ByteArray} {i o n : Nat} {pv : Value} {ps : List NT} (h : AlL w wr rb s i o n pv ps) (hb : Below wr.heap.size wr w2) : AlL w w2 rb s i o n pv ps := ⟨h.rs.below hb, h.le, CB.below h.zero hb, h.new.below hb⟩
/-- A part more, about to be put behind. -/
structure AlA (w wq : World) (rb g6 : Nat) (s : ByteArray) (i o n : Nat) (pv : Value) (ps : List NT) (t : NT) : Prop where
  all : AlL w wq rb s i o n pv ps
  part : NewT wq (w.heap.size + 1) t
  apart : ∀ x ∈ (partsN pv ps).foot, x ∉ t.foot
  new1 : CB wq 42 g6 t.cells
theorem AlA.row {w wq : World} {rb g6 : Nat} {s : ByteArray} {i o n : Nat} {pv : Value} {ps : List NT} {t : NT} (h : AlA w wq rb g6 s i o n pv ps t) : wq.ownsRow (w.heap.size + 1) 42 8 pv ps.length (ps.flatMap NT.cells) := (NT.Own_mk.1 h.all.new.own).1
theorem AlA.base {w wq : World} {rb g6 : Nat} {s : ByteArray} {i o n : Nat} {pv : Value} {ps : List NT} {t : NT} (h : AlA w wq rb g6 s i o n pv ps t) : w.heap.size + 1 ≤ wq.heap.size := h.all.lt
theorem AlA.make {w wr w2 wq : World} {rb g6 : Nat} {s : ByteArray} {i j o n : Nat} {pv : Value} {ps : List NT} {t : NT} (h : AlL w wr rb s i o n pv ps) (k : RS wr w2 rb s j o) (hj : j ≤ n) (hrb : rb < w.heap.size) (ht : NewT w2 wr.heap.size t) (hb : Below w2.heap.size w2 wq) (hc : CB wq 42 g6 t.cells) : AlA w wq rb g6 s j o n pv ps t :=
  ⟨(h.go k hj hrb).below hb, (ht.below hb).base h.lt, fun x hx hm => by have h1 := h.new.lt x hx; have h2 := ht.lt x hm; omega, hc⟩
theorem AlA.done {w wq w5 : World} {rb g6 g cap : Nat} {s : ByteArray} {i o n : Nat} {pv : Value} {ps : List NT} {t : NT} (h : AlA w wq rb g6 s i o n pv ps t) (hrb : rb < w.heap.size)
    (hown : w5.ownsRow (w.heap.size + 1) 42 8 (.slice (some ⟨g, 0, none⟩) (ps.length + 1) cap) (ps.length + 1) (ps.flatMap NT.cells ++ t.cells)) (hg : wq.grownBy w5 pv.ownBlock) (hor : pv.ownBlock = some g ∨ g = wq.heap.size) :
    AlL w w5 rb s i o n (.slice (some ⟨g, 0, none⟩) (ps.length + 1) cap) (ps ++ [t]) := by
  have hch := Chg.of_grown hg
  have hpv : ∀ x, pv.ownBlock = some x → w.heap.size + 1 ≤ x := fun x hx => (World.ownsRow.lt h.row x hx).1
  refine ⟨⟨CB.chg h.all.rs.box hch fun e => by have := hpv rb e.symm; omega, ?_⟩, h.all.le, CB.chg h.all.zero hch fun e => by have := hpv _ e.symm; omega, h.all.new.push h.part h.apart hown hg hor⟩
  exact ⟨hch.os.trans h.all.rs.chg.os, hch.tape.trans h.all.rs.chg.tape, hch.output.trans h.all.rs.chg.output, Nat.le_trans h.all.rs.chg.size hch.size, fun x hx hn => (hch.block x (by have := h.all.rs.chg.size; omega) (fun e => by have := hpv x e.symm; omega)).trans (h.all.rs.chg.block x hx hn)⟩
theorem pre1 {c : Nat} {l : List Nat} : [c].isPrefixOf l = true ↔ l.head? = some c := by
  cases l with
  | nil => simp [List.isPrefixOf]
  | cons d t => simp [List.isPrefixOf]; exact eq_comm
theorem end_cases {l : List Nat} {i : Nat} (h : i < l.length) (hf : l.drop i = [] ∨ hd isEnd (l.drop i)) : [124].isPrefixOf (l.drop i) = true ∨ ([124].isPrefixOf (l.drop i) = false ∧ [41].isPrefixOf (l.drop i) = true) := by
  rw [drop_at h] at hf ⊢
  rcases hf with hf | hf
  · cases hf
  · have hf : at0 l i = 124 ∨ at0 l i = 41 := hf
    rcases hf with e | e <;> rw [e]
    · exact .inl rfl
    · exact .inr ⟨rfl, rfl⟩
theorem end_none {l : List Nat} (h : ¬ hd isEnd l) : [124].isPrefixOf l = false ∧ [41].isPrefixOf l = false := by
  constructor <;> rw [Bool.eq_false_iff] <;> intro hp <;> have := pre1.1 hp <;> cases l <;> simp at this <;> exact h (by rw [this]; simp [hd, isEnd])
set_option maxHeartbeats 3000000 in
set_option maxRecDepth 100000 in
theorem p_alternative (s : ByteArray) (n m : Nat) (hn : s.size = n) (hbig : n ≤ 1099511627775) (hn32 : n < 4294967281) (hP : PatOK s n m) (rb i0 o : Nat) (w : World) (hi0 : i0 ≤ n) (him : n - i0 ≤ m) (ho : o ≤ 64) (hg : Gl w) (hrb : 0 < rb) (hr : RB w rb s i0 o) :
    Calls Tryz.prog 60 #[.pointer (some ⟨rb, 0, none⟩)] w fun e w' => TreeRet rb s i0 o n (fun _ => Run o (.alt []) ((bsN s).drop i0)) w e w' := by
  have hrl := CB.lt hr
  have hne : w.heap.size ≠ rb := by omega
  have hbl : (bsN s).length = n := by rw [bsN_len, hn]
  have HBL := Lib.hid hbl
  clear hbl
  go_enter Tryz.func60, Tryz.ntmps60
  go_wp2
  go_loopw [4] (fun pv wr => ∃ (i : Nat) (ps : List NT) (pa : Option Addr) (pl pc : Nat), pv = .slice pa pl pc ∧ i0 ≤ i ∧ ps.length ≤ i - i0 ∧ Hid (AlL w wr rb s i o n (.slice pa pl pc) ps) ∧ Hid (∀ res, Run o (.alt (ps.map NT.pt)) ((bsN s).drop i) res → Run o (.alt []) ((bsN s).drop i0) res)) (fun _ wr => n - posAt wr rb)
  case atStart => exact ⟨i0, [], none, 0, 0, rfl, Nat.le_refl _, by simp, ⟨(RS.refl hr).alloc _, hi0, CB.new w _ zero8, partsN_nil _ _⟩, fun _ h => h⟩
  case round =>
    obtain ⟨i, ps, pa, pl, pc, rfl, hii, hcnt, HL, HQ⟩ := hrel
    have hin := HL.out.le
    have HX := Lib.hid HL.out.rs.box
    obtain ⟨e124, he124⟩ : ∃ b, (bsN ⟨#[124]⟩).isPrefixOf ((bsN s).drop i) = b := ⟨_, rfl⟩
    obtain ⟨e41, he41⟩ : ∃ b, (bsN ⟨#[41]⟩).isPrefixOf ((bsN s).drop i) = b := ⟨_, rfl⟩
    have h124 := Lib.hid he124
    have h41 := Lib.hid he41
    by_cases hfin : (bsN s).drop i = [] ∨ hd isEnd ((bsN s).drop i)
    · have HR : Hid (Run o (.alt []) ((bsN s).drop i0) (.ok (joinT 4 (ps.map NT.pt)) ((bsN s).drop i))) := HQ.out _ (.altEnd hfin)
      by_cases hlt : i < n
      · have hdE : decide (i = n) = false := decide_eq_false (by omega)
        have hcase : e124 = true ∨ (e124 = false ∧ e41 = true) := by
          rw [← he124, ← he41]
          exact end_cases (by rw [HBL.out]; exact hlt) hfin
        clear he124 he41 hfin
        rcases hcase with rfl | ⟨rfl, rfl⟩
        all_goals
        go_wp2_with (first | (go_at_call 45; (with_reducible refine (p_ended rb s i o _ n hn HX.out).mono ?_); rintro e w1 ⟨rfl, md, rfl⟩; rw [hdE]) | (go_at_call 79; (with_reducible refine (p_stands rb s _ i o _ n hn HL.out.le (RB.drewN HX.out _)).mono ?_); rintro e w1 ⟨rfl, md2, rfl⟩; first | rw [h124.out] | rw [h41.out]) | (go_at_call 61; (refine (q_joined 4 (HL.out.drewN _).new).mono ?_); rintro e w3 ⟨k, S, mm, nn, a, l, c', qs, hjn, rfl, hb3⟩; have HL3 := Lib.hid ((HL.out.drewN _).below hb3)) | (refine wpl_storeS 42 (.tmp 2) _ rfl rfl (t := 42) (g := w.heap.size) (cur := zero8) (vs := #[.int .i64 k, .int .u64 (S.a : Nat), .int .u64 (S.b : Nat), .int .u64 (S.c : Nat), .int .u64 (S.d : Nat), .int .i64 mm, .int .i64 nn, .slice a l c']) ?_ ?_ ?_ ?_ ?_ ?_ ?_; exact HL3.out.zero; rfl; rfl; rfl; exact infoNode; rfl; intro w5 hc5 hch5 hsz5))
        refine bodyPost_ret (results_cbT rfl rfl rfl hc5 Tryz.underlying42 infoNode) rfl ?_
        refine ⟨i, o, RS.put HL3.out.rs hch5 (Nat.le_refl _) hne, hii, HL3.out.le, .inl ⟨.mk k S mm nn (.slice a l c') qs, ?_, rfl, by rw [← hjn.out, joinN_pt]; exact HR.out, rfl⟩⟩
        have := HL3.out.new.join 4
        rw [hjn.out] at this
        exact (this.put hch5 (by omega)).base (by omega)
      · have hdE : decide (i = n) = true := decide_eq_true (by omega)
        clear he124 he41 hfin
        go_wp2_with (first | (go_at_call 45; (with_reducible refine (p_ended rb s i o _ n hn HX.out).mono ?_); rintro e w1 ⟨rfl, md, rfl⟩; rw [hdE]) | (go_at_call 79; (with_reducible refine (p_stands rb s _ i o _ n hn HL.out.le (RB.drewN HX.out _)).mono ?_); rintro e w1 ⟨rfl, md2, rfl⟩; first | rw [h124.out] | rw [h41.out]) | (go_at_call 61; (refine (q_joined 4 (HL.out.drewN _).new).mono ?_); rintro e w3 ⟨k, S, mm, nn, a, l, c', qs, hjn, rfl, hb3⟩; have HL3 := Lib.hid ((HL.out.drewN _).below hb3)) | (refine wpl_storeS 42 (.tmp 2) _ rfl rfl (t := 42) (g := w.heap.size) (cur := zero8) (vs := #[.int .i64 k, .int .u64 (S.a : Nat), .int .u64 (S.b : Nat), .int .u64 (S.c : Nat), .int .u64 (S.d : Nat), .int .i64 mm, .int .i64 nn, .slice a l c']) ?_ ?_ ?_ ?_ ?_ ?_ ?_; exact HL3.out.zero; rfl; rfl; rfl; exact infoNode; rfl; intro w5 hc5 hch5 hsz5))
        refine bodyPost_ret (results_cbT rfl rfl rfl hc5 Tryz.underlying42 infoNode) rfl ?_
        refine ⟨i, o, RS.put HL3.out.rs hch5 (Nat.le_refl _) hne, hii, HL3.out.le, .inl ⟨.mk k S mm nn (.slice a l c') qs, ?_, rfl, by rw [← hjn.out, joinN_pt]; exact HR.out, rfl⟩⟩
        have := HL3.out.new.join 4
        rw [hjn.out] at this
        exact (this.put hch5 (by omega)).base (by omega)
    · have hne1 : (bsN s).drop i ≠ [] := fun e => hfin (.inl e)
      have hne2 : ¬ hd isEnd ((bsN s).drop i) := fun e => hfin (.inr e)
      have hlt : i < n := by
        rcases Nat.lt_or_ge i n with h | h
        · exact h
        · exact absurd (List.drop_eq_nil_of_le (by rw [HBL.out]; exact h)) hne1
      have hdE : decide (i = n) = false := decide_eq_false (by omega)
      obtain ⟨rfl, rfl⟩ : e124 = false ∧ e41 = false := by rw [← he124, ← he41]; exact end_none hne2
      have HN1 := Lib.hid hne1
      have HN2 := Lib.hid hne2
      have him2 : n - i ≤ m := by omega
      have hcnt1 : ps.length + 1 ≤ 1099511627776 := by omega
      clear he124 he41 hfin hne1 hne2
      go_wp2_with (first | (go_at_call 45; (with_reducible refine (p_ended rb s i o _ n hn HX.out).mono ?_); rintro e w1 ⟨rfl, md, rfl⟩; rw [hdE]) | (go_at_call 79; (with_reducible refine (p_stands rb s _ i o _ n hn HL.out.le (RB.drewN HX.out _)).mono ?_); rintro e w1 ⟨rfl, md2, rfl⟩; first | rw [h124.out] | rw [h41.out]) | (go_at_call 80; ((refine (p_piece s n m hn (by omega) hn32 hP rb i o _ hlt him2 ho (Gl.drewN (Gl.chg hg HL.out.rs.chg hrb) _) hrb (RB.drewN HX.out _)).mono ?_); rintro e w2 hT; replace hT := hT.split; obtain ⟨j, o', hs2, hj, hjn, ⟨k, S, mm, nn, a, l, c', qs, hN, rfl, hres, rfl⟩ | ⟨k, hk, hres, rfl⟩⟩ := hT; (all_goals first | (have HA := Lib.hid (AlA.make (g6 := w2.heap.size + 1) (HL.out.drewN _) hs2 hjn hrl hN (((Below.refl _ _).alloc (Nat.le_refl _) (.cells #[.int .i64 k, .int .u64 (S.a : Nat), .int .u64 (S.b : Nat), .int .u64 (S.c : Nat), .int .u64 (S.d : Nat), .int .i64 mm, .int .i64 nn, .slice a l c'] 42)).alloc (by go_size) (.cells #[.int .i64 k, .int .u64 (S.a : Nat), .int .u64 (S.b : Nat), .int .u64 (S.c : Nat), .int .u64 (S.d : Nat), .int .i64 mm, .int .i64 nn, .slice a l c'] 42)) (cb2 w2 (.cells #[.int .i64 k, .int .u64 (S.a : Nat), .int .u64 (S.b : Nat), .int .u64 (S.c : Nat), .int .u64 (S.d : Nat), .int .i64 mm, .int .i64 nn, .slice a l c'] 42) 42 [.int .i64 k, .int .u64 (S.a : Nat), .int .u64 (S.b : Nat), .int .u64 (S.c : Nat), .int .u64 (S.d : Nat), .int .i64 mm, .int .i64 nn, .slice a l c'])); have HR := Lib.hid hres; have hs2j := hs2.box.pos; clear hN hres) | (have hkb : (k != 0) = true := (by simpa using hk); have HR := Lib.hid hres; have HS1 := Lib.hid (((HL.out.drewN _).rs.trans hs2).alloc Z8); have HZ1 := Lib.hid (CB.alloc (CB.chg (HL.out.drewN _).zero hs2.chg hne) Z8); clear hres)))) | (at_builtin; refine wpl_appS 40 42 Tryz.underlying40 infoNode3 rfl (by decide) (by decide) rfl _ _ rfl (w.heap.size + 1) (.slice pa pl pc) ps.length (ps.flatMap NT.cells) rfl HA.out.row (w2.heap.size + 1) (nodeCells k S mm nn (.slice a l c')) rfl rfl ?_ ?_ ?_ ?_ ?_; exact fun x u hx => (CB.cell HA.out.new1 x).trans hx; exact all_one (by rfl); exact hcnt1; exact HA.out.base; intro g5 cap5 w5 hown5 hgr5 hBg5 hlt5 hor5) | (refine wpl_storeS 42 (.tmp 2) _ rfl rfl (t := 42) (g := w.heap.size) (cur := zero8) (vs := #[.int .i64 0, .int .u64 0, .int .u64 0, .int .u64 0, .int .u64 0, .int .i64 0, .int .i64 0, .slice none 0 0]) ?_ ?_ ?_ ?_ ?_ ?_ ?_; exact HZ1.out; rfl; rfl; rfl; exact infoNode; rfl; intro w5 hc5 hch5 hsz5))
      · have hjj : i < j := by
          have := (Run.len HR.out _ _ rfl).2 (.inr rfl)
          rw [List.length_drop, List.length_drop, HBL.out] at this
          omega
        have HN : Hid (AlL w w5 rb s j o n (.slice (some ⟨g5, 0, none⟩) (ps.length + 1) cap5) (ps ++ [NT.mk k S mm nn (.slice a l c') qs])) := HA.out.done hrl hown5 hgr5 (hor5.out.imp id (fun e => e))
        have HQ2 : Hid (∀ res, Run o (.alt ((ps ++ [NT.mk k S mm nn (.slice a l c') qs]).map NT.pt)) ((bsN s).drop j) res → Run o (.alt []) ((bsN s).drop i0) res) := fun res hres => HQ.out _ (.altMore HN1.out HN2.out HR.out (by rw [List.map_append] at hres; exact hres))
        have hpos := HN.out.rs.box.pos
        have hpos0 := HL.out.rs.box.pos
        clear hown5 hgr5
        go_wp2
        go_roundw
        case rel => exact ⟨j, ps ++ [NT.mk k S mm nn (.slice a l c') qs], _, _, _, rfl, by omega, by rw [List.length_append]; simp; omega, HN.out, HQ2.out⟩
        case measure => rw [hpos, hpos0]; omega
      · refine bodyPost_ret (results_cbT rfl rfl rfl hc5 Tryz.underlying42 infoNode) rfl ?_
        exact ⟨j, o', RS.put HS1.out hch5 (Nat.le_refl _) hne, by omega, hjn, .inr ⟨k, hk, HQ.out _ (.altErr HN1.out HN2.out HR.out), rfl⟩⟩
end Go.Proofs.YthhchpmlljfpjaaGreat
