import Derived.Test.YtfjhmnbbjknflaaGreatDoorWReckons
import Derived.Test.YtfjhmnbbjknflaaGreatDoorR2Parse
import Derived.Test.YtfjhmnbbjknflaaGreatDoorRTextW
namespace Go.Proofs.YtfjhmnbbjknflaaGreatDoor
open Go.RowKit

theorem WParseTells.one {l : List UInt8} {k k' : Int} {s s' : Bool} {zs zs' : List Nat} (h : WParseTells l k s zs) (h' : WParseTells l k' s' zs') : k = k' ∧ s = s' ∧ zs = zs' := by
  rcases h with ⟨p, rfl, rfl, rfl⟩ | ⟨p, q, rfl, rfl, rfl⟩ | ⟨p, q, r, rfl, rfl, rfl⟩ | ⟨p, q, r, rfl, rfl, t⟩ <;> rcases h' with ⟨p', rfl, rfl, rfl⟩ | ⟨p', q', rfl, rfl, rfl⟩ | ⟨p', q', r', rfl, rfl, rfl⟩ | ⟨p', q', r', rfl, rfl, t'⟩
  all_goals first | exact ⟨rfl, rfl, rfl⟩ | exact ⟨rfl, rfl, t.unique t'⟩ | (exfalso; omega) | (rw [q] at q'; cases q') | exact absurd r' (Nat.not_lt.2 r) | exact absurd r (Nat.not_lt.2 r')
theorem WParseTells.len {l : List UInt8} {k : Int} {s : Bool} {zs : List Nat} (h : WParseTells l k s zs) : zs.length ≤ 64 := by
  rcases h with ⟨_, _, _, rfl⟩ | ⟨_, _, _, _, rfl⟩ | ⟨_, _, _, _, _, rfl⟩ | ⟨_, _, r, _, _, t⟩
  · exact Nat.zero_le _
  · exact Nat.zero_le _
  · exact Nat.zero_le _
  · exact (t.len_le (k := 64)).2 r
/-- A text and an error's number. -/
def TxTells (n : Bool) (xs : List Nat) (S : ByteArray) (k : Int) : Prop := (LIM ≤ val xs ∧ S = ⟨#[]⟩ ∧ k = 3) ∨ (val xs < LIM ∧ k = 0 ∧ ∃ l, IsDec l (val xs) ∧ S = ⟨(if wv n xs < 0 then 45 :: l else l).toArray⟩)
theorem WText.told {n : Bool} {xs : List Nat} {w w' : World} {e : Ending} (h : WText n xs w e w') : ∃ S k, e = .returned (.tuple #[.string S, .int .i64 k]) ∧ TxTells n xs S k ∧ Below w.heap.size w w' := by
  rcases h.2 with ⟨h1, rfl⟩ | ⟨h1, l, hl, rfl⟩
  · exact ⟨_, _, rfl, .inl ⟨h1, rfl, rfl⟩, h.1⟩
  · exact ⟨_, _, rfl, .inr ⟨h1, rfl, l, hl, rfl⟩, h.1⟩
theorem TxTells.one {n : Bool} {xs : List Nat} {S S' : ByteArray} {k k' : Int} (h : TxTells n xs S k) (h' : TxTells n xs S' k') : S = S' ∧ k = k' := by
  rcases h with ⟨p, rfl, rfl⟩ | ⟨p, rfl, l, hl, rfl⟩ <;> rcases h' with ⟨p', rfl, rfl⟩ | ⟨p', rfl, l', hl', rfl⟩
  · exact ⟨rfl, rfl⟩
  · omega
  · omega
  · obtain rfl := hl.unique hl'; exact ⟨rfl, rfl⟩
theorem Wd.int1 {w0 W W' : World} {O : List (Value × List Nat)} {R : List Rw} {G : List (Nat × Bool × Option Addr × Nat × Nat)} (h : Wd w0 O R G W) {z : Int} {e : Ending} (hp : IPost z W e W') :
    ∃ n a l c zs, e = .returned (.agg #[.bool n, .slice a l c]) ∧ zs.length = l ∧ n = decide (z < 0) ∧ Num zs z.natAbs ∧ Wd w0 ((.slice a l c, zs) :: O) (rw64 (.slice a l c) zs :: R) G W' := by
  obtain ⟨hb, a, c, zs, rfl, ho, hN⟩ := hp
  obtain ⟨n, a', l, c', k, zs', he, hl, hq, hW⟩ := h.told1 (Q := fun k n zs' => zs' = zs ∧ n = decide (z < 0)) (e := .returned (.tuple #[.agg #[.bool (decide (z < 0)), .slice a zs.length c], .int .i64 0])) (W' := W') ⟨hb, _, a, c, 0, zs, rfl, ho, rfl, rfl⟩
  obtain ⟨rfl, rfl⟩ := hq
  simp only [Ending.returned.injEq, Value.tuple.injEq, Array.mk.injEq, List.cons.injEq, Value.agg.injEq, Value.slice.injEq, and_true, true_and] at he
  obtain ⟨⟨rfl, rfl, rfl⟩, _⟩ := he
  exact ⟨_, a, _, c, zs', rfl, rfl, rfl, hN, hW⟩
theorem Wd.int2 {w0 W W' : World} {O : List (Value × List Nat)} {R : List Rw} {G : List (Nat × Bool × Option Addr × Nat × Nat)} (h : Wd w0 O R G W) {z : Int} {e : Ending} (hp : IPost z W e W') :
    ∃ n a l c zs, e = .returned (.agg #[.bool n, .slice a l c]) ∧ zs.length = l ∧ n = decide (z < 0) ∧ Num zs z.natAbs ∧ Wd w0 ((.slice a l c, zs) :: O) R G W' := by
  obtain ⟨hb, a, c, zs, rfl, ho, hN⟩ := hp
  have h2 := h.below hb
  exact ⟨_, a, _, c, zs, rfl, rfl, rfl, hN, fun p hp => by
    rcases List.mem_cons.1 hp with rfl | hp
    · exact owns_base ho h.bel.size
    · exact h2.own p hp, h2.sep, h2.boxes, h2.bel⟩
set_option maxHeartbeats 16000000 in
set_option maxRecDepth 100000 in
theorem wholereads_any (s : ByteArray) (nx : Bool) (ax : Option Addr) (lx cx : Nat) (xsx : List Nat) (z : Int) (w : World) (hs : s.size ≤ 9223372036854775807) (hlx : xsx.length = lx) (hbx : lx ≤ 9223372036854775807) (hrx : Rd .u64 w ax xsx) (bxx : Bd xsx) (hz1 : -9223372036854775808 ≤ z) (hz2 : z ≤ 9223372036854775807) (ht : Tabs w) (hT : Trig w) :
    Calls Tryz.prog 5 #[.string s, .agg #[.bool nx, .slice ax lx cx], .int .i64 z] w fun e w' => e = .returned (.bool true) ∧ Below w.heap.size w w' := by
  have HT := Lib.hid (fun (W : World) (h : Below w.heap.size w W) => ht.below h)
  have HTR := Lib.hid (fun (W : World) (h : Below w.heap.size w W) => hT.below h)
  have HRX := Lib.hid (fun (W : World) (h : Below w.heap.size w W) => hrx.below h)
  have HBX := Lib.hid bxx
  have HLX := Lib.hid hlx
  have HZ := Lib.hid (And.intro hz1 hz2)
  clear ht hT hrx bxx hlx
  go_enter Tryz.func5, Tryz.ntmps5
  have HW2 := Lib.hid (show Below w.heap.size w (w.alloc (WO nx ax lx cx)) from (Below.refl _ _).alloc (Nat.le_refl _) _)
  by_cases h1 : 4096 < s.size
  · have hq : decide ((4096 : Int) < (s.size : Int)) = true := by rw [decide_eq_true_iff]; omega
    clear h1
    go_wp2
    go_ret
    exact ⟨rfl, HW2.out⟩
  have hq : decide ((4096 : Int) < (s.size : Int)) = false := by rw [decide_eq_false_iff_not]; omega
  by_cases h2 : 200 < lx
  · have hq2 : decide ((200 : Int) < (lx : Int)) = true := by rw [decide_eq_true_iff]; omega
    clear h1 h2
    go_wp2
    go_ret
    exact ⟨rfl, HW2.out⟩
  have hq2 : decide ((200 : Int) < (lx : Int)) = false := by rw [decide_eq_false_iff_not]; omega
  have HM : Hid (s.size ≤ 65536 ∧ lx ≤ 200 ∧ lx ≤ 4096 ∧ lx ≤ 1048576) := ⟨by omega, by omega, by omega, by omega⟩
  clear h1 h2 hz1 hz2
  have HSL := Lib.hid ((SL.init w).new (w.heap.size) rfl nx ax lx cx)
  go_wp2_with fail
  refine (lentWhole_any nx ax lx cx xsx _ HLX.out HM.out.2.2.2 (HRX.out _ HW2.out)).mono ?_
  rintro e w1 ⟨gx, c1, rfl, ho, -, hb⟩
  have HOX1 := Lib.hid ho
  have HSL := Lib.hid (HSL.out.below hb)
  clear ho hb
  have HSL2 := Lib.hid (HSL.out.new w1.heap.size rfl nx (some ⟨gx, 0, none⟩) lx c1)
  go_wp2_with fail
  generalize hWH : w1.alloc (Obj.cells #[.bool nx, .slice (some ⟨gx, 0, none⟩) lx c1] 24) = wH at *
  have HOX : Hid (wH.ownsRow (w.alloc (WO nx ax lx cx)).heap.size 61 1 (.slice (some ⟨gx, 0, none⟩) (lx + 16) c1) (lx + 16) (u64s xsx ++ mksw 16)) := by
    show World.ownsRow _ _ _ _ _ _ _
    rw [← hWH]
    exact owns_below HOX1.out ((Below.refl _ _).alloc (Nat.le_refl _) _)
  clear hWH HOX1 HSL
  generalize hgA : w1.heap.size = gA at *
  clear hgA
  have HCX : Hid (lx ≤ c1) := by show _ ≤ _; have := own_room HOX.out; omega
  have HE : Hid (Wd wH [] [] [(gA, nx, some ⟨gx, 0, none⟩, lx, c1), (w.heap.size, nx, ax, lx, cx)] wH) := ⟨fun _ h => (by cases h), Sep.nil _ _, HSL2.out.boxes, Below.refl _ _⟩
  have HWH := Lib.hid HSL2.out.bel
  have HXY : Hid (∀ W, Below wH.heap.size wH W → Rd .u64 W (some ⟨gx, 0, none⟩) xsx ∧ Rd .u64 W ax xsx ∧ Tabs W ∧ Trig W) := fun W h =>
    have h2 := HWH.out.trans (h.mono HWH.out.size)
    ⟨(rdl_of' HOX.out (List.take_left' (u64s_len xsx)) (by have := HLX.out; omega)).below h, HRX.out _ h2, HT.out _ h2, HTR.out _ h2⟩
  obtain ⟨xx0, xx1, -, -⟩ := HE.out.cells (g := gA) (n := nx) (a := (some ⟨gx, 0, none⟩)) (l := lx) (c := c1) (by repeat first | exact List.mem_cons_self | apply List.mem_cons_of_mem)
  go_wp2_with fail
  refine (wtext_any nx (some ⟨gx, 0, none⟩) lx c1 xsx _ HLX.out HM.out.2.2.2 HCX.out (fun h => by cases h) (HXY.out _ HE.out.bel).1 HBX.out).mono ?_
  intro e w1 hp
  obtain ⟨S, kS, rfl, hST, hb⟩ := hp.told
  clear xx0 xx1
  have HST := Lib.hid hST
  have HE := Lib.hid (HE.out.below hb)
  clear hp hST hb
  go_wp2_with fail
  refine ((wparse_any s _ hs).mono fun e W' hp => HE.out.told1 hp).mono ?_
  rintro e w2 ⟨nP, aP, lP, cP, kP, zP, rfl, hl, hq, hS⟩
  have HE := Lib.hid hS
  clear hS
  have HLP := Lib.hid hl
  have HQP := Lib.hid hq
  clear hl hq
  have HE := Lib.hid (HE.out.new (w2.heap.size) rfl nP aP lP cP)
  go_wp2_with fail
  generalize hWk : (w2.alloc (Obj.cells #[.bool nP, .slice aP lP cP] 24)) = W3 at *
  clear hWk
  generalize w2.heap.size = gP at *
  refine ((int_any z _ HZ.out.1 HZ.out.2).mono fun e W' hp => HE.out.int1 hp).mono ?_
  rintro e w4 ⟨nI, aI, lI, cI, zI, rfl, hl, hn, hN, hS⟩
  have HE := Lib.hid hS
  clear hS
  have HLI := Lib.hid hl
  have HNI := Lib.hid hn
  have HNN := Lib.hid hN
  clear hl hn hN
  have HE := Lib.hid (HE.out.new (w4.heap.size) rfl nI aI lI cI)
  obtain ⟨xa0, xa1, -, -⟩ := HE.out.cells (g := w.heap.size) (n := nx) (a := ax) (l := lx) (c := cx) (by repeat first | exact List.mem_cons_self | apply List.mem_cons_of_mem)
  go_wp2_with fail
  generalize hWk : (w4.alloc (Obj.cells #[.bool nI, .slice aI lI cI] 24)) = W5 at *
  clear hWk
  generalize w4.heap.size = gI at *
  refine (r2text_any nx ax lx cx xsx _ HLX.out HM.out.2.2.1 (HXY.out _ HE.out.bel).2.1 HBX.out).mono ?_
  intro e w6 hp
  obtain ⟨S2, kS2, rfl, hST, hb⟩ := hp.told
  obtain ⟨rfl, rfl⟩ := HST.out.one hST
  clear xa0 xa1
  have HE := Lib.hid (HE.out.below hb)
  clear hp hST hb HST
  go_wp2_with fail
  refine ((r2parse_any s _ HM.out.1).mono fun e W' hp => HE.out.told2 hp).mono ?_
  rintro e w7 ⟨nP2, aP2, lP2, cP2, kP2, zP2, rfl, hl, hq, hS⟩
  have HE := Lib.hid hS
  clear hS
  obtain ⟨rfl, rfl, rfl⟩ := HQP.out.one hq
  obtain rfl : lP = lP2 := by rw [← HLP.out]; exact hl
  have HZP : Hid (lP ≤ 64) := by show _ ≤ _; rw [← HLP.out]; exact HQP.out.len
  clear hl hq HQP
  have hSS : (S == S) = true := by first | exact beq_self_eq_true S | (cases S; exact beq_self_eq_true (α := Array UInt8) _) | (cases S; rw [beq_iff_eq])
  have hkS : (kS == kS) = true := by simp
  have HSZ : Hid ((w7.alloc (Obj.cells #[.bool nP, .slice aP2 lP cP2] 24)).heap.size = w7.heap.size + 1) := by show _ = _; simp
  have HE := Lib.hid (HE.out.new (w7.heap.size) rfl nP aP2 lP cP2)
  go_wp2_with fail
  generalize hWk : (w7.alloc (Obj.cells #[.bool nP, .slice aP2 lP cP2] 24)) = W8 at *
  clear hWk
  generalize w7.heap.size = gP2 at *
  have hsep := (HE.out.sep.perm (show List.Perm [rw64 (.slice aI lI cI) zI, rw64 (.slice aP lP cP) zP] ([rw64 (.slice aP lP cP) zP, rw64 (.slice aI lI cI) zI] ++ []) from List.reverse_perm [rw64 (.slice aP lP cP) zP, rw64 (.slice aI lI cI) zI]))
  have hsep := (hsep.nilRow 65).nilRow 22
  have hbok := Bok.start (R := rwNo :: rwNo8 :: ([rw64 (.slice aP lP cP) zP, rw64 (.slice aI lI cI) zI] ++ [])) (T := 33) hsep HE.out.bel.size HSZ.out.symm
  have HK0 : Hid (Below W8.heap.size W8 (W8.alloc (.cells #[.slice none 0 0, .slice none 0 0] 33))) := (Below.refl _ _).alloc (Nat.le_refl _) _
  clear hsep
  generalize hWB : W8.alloc (.cells #[.slice none 0 0, .slice none 0 0] 33) = WB at *
  clear hWB
  have HK8 := Lib.hid (HK0.out.drew)
  have HBK := Lib.hid (hbok.below (Below.refl _ _).drew)
  clear hbok HK0
  have HZ64 : Hid (lP ≤ 1048576) := by show _ ≤ _; have := HZP.out; omega
  have HI64 : Hid (lI ≤ 1048576) := by
    show _ ≤ _
    rw [← HLI.out]
    have := (HNN.out.len_le (k := 1)).2 (by have := HZ.out; omega)
    omega
  go_region_held3 (fun W => W.cell? ⟨gP, 0, none⟩ = some (.bool nP) ∧ W.cell? ⟨gP, 1, none⟩ = some (.slice aP lP cP) ∧ W.cell? ⟨gP2, 0, none⟩ = some (.bool nP) ∧ W.cell? ⟨gP2, 1, none⟩ = some (.slice aP2 lP cP2) ∧ W.cell? ⟨gI, 0, none⟩ = some (.bool nI) ∧ W.cell? ⟨gI, 1, none⟩ = some (.slice aI lI cI))
    (exact ⟨((HE.out.below HK8.out).cells (g := gP) (n := nP) (a := aP) (l := lP) (c := cP) (by repeat first | exact List.mem_cons_self | apply List.mem_cons_of_mem)).1, ((HE.out.below HK8.out).cells (g := gP) (n := nP) (a := aP) (l := lP) (c := cP) (by repeat first | exact List.mem_cons_self | apply List.mem_cons_of_mem)).2.1, ((HE.out.below HK8.out).cells (g := gP2) (n := nP) (a := aP2) (l := lP) (c := cP2) (by repeat first | exact List.mem_cons_self | apply List.mem_cons_of_mem)).1, ((HE.out.below HK8.out).cells (g := gP2) (n := nP) (a := aP2) (l := lP) (c := cP2) (by repeat first | exact List.mem_cons_self | apply List.mem_cons_of_mem)).2.1, ((HE.out.below HK8.out).cells (g := gI) (n := nI) (a := aI) (l := lI) (c := cI) (by repeat first | exact List.mem_cons_self | apply List.mem_cons_of_mem)).1, ((HE.out.below HK8.out).cells (g := gI) (n := nI) (a := aI) (l := lI) (c := cI) (by repeat first | exact List.mem_cons_self | apply List.mem_cons_of_mem)).2.1⟩)
    (first
    | (go_at_call 10; (refine (lsame2_any nP nP aP aP2 lP cP lP cP2 kP kP zP zP _ HLP.out HLP.out HZ64.out ((HE.out.below HK8.out).rd (l := lP) (c := cP) (by repeat first | exact List.mem_cons_self | apply List.mem_cons_of_mem)) ((HE.out.below HK8.out).rd (l := lP) (c := cP2) (by repeat first | exact List.mem_cons_self | apply List.mem_cons_of_mem)) rfl rfl rfl).mono ?_); rintro e wZZ ⟨rfl, hb⟩
       have HK8 := Lib.hid (HK8.out.trans (hb.mono HK8.out.size))
       have HBK := Lib.hid (HBK.out.below hb)
       clear hb)
    | (go_at_call 41; (refine (r2int_any z _ HZ.out.1 HZ.out.2).mono ?_); rintro e wJ ⟨hb, aJ, cJ, zJ, rfl, hoJ, hNJ⟩
       obtain rfl := HNN.out.unique hNJ
       have HRJ := Lib.hid (own64.rd hoJ).2
       rw [HLI.out, ← HNI.out]
       clear hoJ hNJ
       have HK8 := Lib.hid (HK8.out.trans (hb.mono HK8.out.size))
       have HBK := Lib.hid (HBK.out.below hb)
       clear hb)
    | (go_at_call 40; (refine (wsame_any nI aI aJ lI cI cJ zI _ HLI.out HI64.out ((HE.out.below HK8.out).rd (l := lI) (c := cI) (by repeat first | exact List.mem_cons_self | apply List.mem_cons_of_mem)) HRJ.out).mono ?_); rintro e wZZ ⟨rfl, hb⟩
       have HK8 := Lib.hid (HK8.out.trans (hb.mono HK8.out.size))
       have HBK := Lib.hid (HBK.out.below hb)
       clear hb))
  have hbok := HBK.out
  clear HBK
  obtain ⟨b0, b1, -, -⟩ := (HE.out.below HK8.out).cells (g := gP) (n := nP) (a := aP) (l := lP) (c := cP) (by repeat first | exact List.mem_cons_self | apply List.mem_cons_of_mem)
  go_wp2_with fail
  clear b0 b1
  refine (hbok.whole nP aP lP cP (by simp)).mono ?_
  rintro e wB0 ⟨rfl, ⟨vw0, hbok2⟩, hb⟩
  have HK8 := Lib.hid (HK8.out.trans (hb.mono (Nat.le_of_eq HSZ.out)))
  clear hbok hb
  have hbok := hbok2
  clear hbok2
  obtain ⟨b0, b1, -, -⟩ := (HE.out.below HK8.out).cells (g := gI) (n := nI) (a := aI) (l := lI) (c := cI) (by repeat first | exact List.mem_cons_self | apply List.mem_cons_of_mem)
  go_wp2_with fail
  clear b0 b1
  refine (hbok.whole nI aI lI cI (by simp)).mono ?_
  rintro e wB1 ⟨rfl, ⟨vw1, hbok2⟩, hb⟩
  have HK8 := Lib.hid (HK8.out.trans (hb.mono (Nat.le_of_eq HSZ.out)))
  clear hbok hb
  have hbok := hbok2
  clear hbok2
  have HBK := Lib.hid hbok
  clear hbok
  go_wp2_with fail
  refine (Bok.apart (WL := [rw64 (.slice aP lP cP) zP, rw64 (.slice aI lI cI) zI]) (BL := []) HBK.out ?_ (fun s hs => by cases hs) (by simp) (by simp)).mono ?_
  · intro s hs
    simp only [List.mem_cons, List.mem_nil_iff, or_false] at hs
    rcases hs with rfl | rfl
    · exact ⟨rfl, by show zP.length ≤ _; have h1 := HLP.out; have h2 := HZP.out; omega⟩
    · exact ⟨rfl, by show zI.length ≤ _; have h1 := HLI.out; have h2 := HI64.out; omega⟩
  rintro e wE ⟨rfl, hb⟩
  have HKf := Lib.hid ((HE.out.bel.trans (HK8.out.mono HE.out.bel.size)).trans hb)
  clear hb HBK
  have HSf := HSL2.out.below HKf.out
  obtain ⟨x0, x1, -, -⟩ := HSf.cells (g := w.heap.size) (n := nx) (a := ax) (l := lx) (c := cx) (by repeat first | exact List.mem_cons_self | apply List.mem_cons_of_mem)
  obtain ⟨y0, y1, -, -⟩ := HSf.cells (g := gA) (n := nx) (a := (some ⟨gx, 0, none⟩)) (l := lx) (c := c1) (by repeat first | exact List.mem_cons_self | apply List.mem_cons_of_mem)
  clear HSf
  go_wp2_with fail
  clear x0 x1 y0 y1
  refine (keptWhole_any nx ax _ gx lx cx c1 xsx _ HLX.out HM.out.2.2.2 (HXY.out _ HKf.out).2.1 (owns_below HOX.out HKf.out)).mono ?_
  rintro e wF ⟨rfl, hb6⟩
  have HKg := Lib.hid (HKf.out.trans (hb6.mono HKf.out.size))
  clear hb6
  go_wp2_with fail
  refine (wworks_any _ (HT.out _ (HWH.out.trans (HKg.out.mono HWH.out.size)))).mono ?_
  rintro e w8 ⟨rfl, hb8⟩
  have HKi := Lib.hid (HKg.out.trans (hb8.mono HKg.out.size))
  clear hb8
  go_wp2
  go_ret
  exact ⟨rfl, HWH.out.trans (HKi.out.mono HWH.out.size)⟩
end Go.Proofs.YtfjhmnbbjknflaaGreatDoor
