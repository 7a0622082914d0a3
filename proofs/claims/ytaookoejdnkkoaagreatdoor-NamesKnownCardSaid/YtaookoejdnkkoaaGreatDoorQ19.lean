import Derived.Test.YtaookoejdnkkoaaGreatDoorQ18
namespace Go.Proofs.YtaookoejdnkkoaaGreatDoor
open Go.RowKit

/-! What the laws of names share. -/
/-- What is known while a law of names runs: the tables, the rows that are told, the boxes. -/
structure NE (w0 : World) (R : List Rw) (K : List (Nat × List Value)) (W : World) : Prop where
  hh : HT W
  bb : BT W
  bl : Below w0.heap.size w0 W
  sp : Sep W w0.heap.size R
  ks : ∀ p ∈ K, CB W 27 p.1 p.2
theorem NE.below {w0 W W' : World} {R : List Rw} {K : List (Nat × List Value)} (h : NE w0 R K W) (hb : Below W.heap.size W W') : NE w0 R K W' :=
  ⟨h.hh.below hb, h.bb.below hb, h.bl.trans (hb.mono h.bl.size), h.sp.belowS hb, fun p hp => (h.ks p hp).below hb⟩
theorem NE.start {w : World} (hH : HT w) (hB : BT w) : NE w [] [] w := ⟨hH, hB, Below.refl _ _, Sep.nil _ _, fun p hp => by cases hp⟩
theorem NE.box {w0 W : World} {R : List Rw} {K : List (Nat × List Value)} (h : NE w0 R K W) (vs : List Value) : NE w0 R ((W.heap.size, vs) :: K) (W.alloc (.cells vs.toArray 27)) := by
  have hb : Below W.heap.size W (W.alloc (.cells vs.toArray 27)) := (Below.refl _ _).alloc (Nat.le_refl _) _
  refine ⟨h.hh.below hb, h.bb.below hb, h.bl.trans (hb.mono h.bl.size), h.sp.belowS hb, fun p hp => ?_⟩
  rcases List.mem_cons.1 hp with rfl | hp
  · exact CB.new W _ vs
  · exact (h.ks p hp).below hb
theorem NE.rows {w0 W W' : World} {R R2 : List Rw} {K : List (Nat × List Value)} (h : NE w0 R K W) (hb : Below W.heap.size W W') (hs : Sep W' W.heap.size R2) : NE w0 (R2 ++ R) K W' := by
  have h2 := h.below hb
  refine ⟨h2.hh, h2.bb, h2.bl, ?_, h2.ks⟩
  refine ⟨fun r hr => ?_, List.pairwise_append.2 ⟨hs.2, h2.sp.2, fun r hr s hs2 k hk hk2 => ?_⟩⟩
  · rcases List.mem_append.1 hr with hr | hr
    · exact owns_base (hs.1 r hr) h.bl.size
    · exact h2.sp.1 r hr
  · have g1 := World.ownsRow.lt (hs.1 r hr) k hk
    have g2 := World.ownsRow.lt (h.sp.1 s hs2) k hk2
    omega
theorem NE.bytes {w0 W W' : World} {R : List Rw} {K : List (Nat × List Value)} (h : NE w0 R K W) (hb : Below W.heap.size W W') {v : Value} {b : List Nat} (ho : own8 W' W.heap.size v b) : NE w0 (rwb v b :: R) K W' := by
  have h2 := h.below hb
  exact ⟨h2.hh, h2.bb, h2.bl, h.sp.new h.bl.size hb ho, h2.ks⟩
theorem NE.rd {w0 W : World} {R : List Rw} {K : List (Nat × List Value)} (h : NE w0 R K W) {a : Option Addr} {n c : Nat} {zs : List Nat} (hm : rw64 (.slice a n c) zs ∈ R) : Rd .u64 W a zs :=
  (own64.rd (show own64 W w0.heap.size (.slice a n c) zs from h.sp.1 _ hm)).2
theorem NE.get {w0 W : World} {R : List Rw} {K : List (Nat × List Value)} (h : NE w0 R K W) {g : Nat} {a b c d : Value} (hm : (g, [a, b, c, d]) ∈ K) : W.cell? ⟨g, 0, none⟩ = some a ∧ W.cell? ⟨g, 1, none⟩ = some b ∧ W.cell? ⟨g, 2, none⟩ = some c ∧ W.cell? ⟨g, 3, none⟩ = some d :=
  (h.ks _ hm).four.1
set_option maxHeartbeats 1000000 in
set_option maxRecDepth 100000 in
theorem samepri_any (kind : Int) (T : ByteArray) (a1 : Option Addr) (p c1 : Nat) (a2 : Option Addr) (q c2 : Nat) (b1 : Option Addr) (d1 : Nat) (b2 : Option Addr) (d2 : Nat) (X Y : List Nat) (w : World) (hX : X.length = p) (hp : p ≤ 1048576) (hY : Y.length = q) (hq : q ≤ 1048576) (h1 : Rd .u64 w a1 X) (h2 : Rd .u64 w a2 Y) (h3 : Rd .u64 w b1 X) (h4 : Rd .u64 w b2 Y) :
    Calls Tryz.prog 14 #[.agg #[.int .i64 kind, .string T, .slice a1 p c1, .slice a2 q c2], .agg #[.int .i64 kind, .string T, .slice b1 p d1, .slice b2 q d2]] w fun e w' => e = .returned (.bool true) ∧ Below w.heap.size w w' := by
  obtain ⟨W0, hW0⟩ : ∃ W0, W0 = (w.alloc (.cells #[.int .i64 kind, .string T, .slice a1 p c1, .slice a2 q c2] 27)).alloc (.cells #[.int .i64 kind, .string T, .slice b1 p d1, .slice b2 q d2] 27) := ⟨_, rfl⟩
  have hb0 : Below w.heap.size w W0 := by rw [hW0]; exact ((Below.refl _ _).alloc (Nat.le_refl _) _).alloc (by simp) _
  have H1 := Lib.hid (h1.below hb0)
  have H2 := Lib.hid (h2.below hb0)
  have H3 := Lib.hid (h3.below hb0)
  have H4 := Lib.hid (h4.below hb0)
  have HW := Lib.hid hb0
  have HWW := Lib.hid hW0
  have HX := Lib.hid hX
  have HY := Lib.hid hY
  have e1 : (kind == kind) = true := by simp
  have e2 : (T.toList == T.toList) = true := by simp
  clear h1 h2 h3 h4 hb0 hW0 hX hY
  go_enter Tryz.func14, Tryz.ntmps14
  go_wp2_with fail
  rw [← HWW.out]
  clear HWW
  refine (samekey_any a1 p c1 a2 q c2 b1 d1 b2 d2 X Y _ HX.out hp HY.out hq H1.out H2.out H3.out H4.out).mono ?_
  rintro e w1 ⟨rfl, hb⟩
  have HW := Lib.hid (HW.out.trans (hb.mono HW.out.size))
  clear hb
  go_wp2
  go_ret
  exact ⟨rfl, HW.out⟩

/-! What each law asks besides. -/
theorem p_of_is (s : ByteArray) (n : Nat) (w : World) (hn : s.size = n) (hbig : n ≤ 1099511627776) (hH : HT w) (hB : BT w) {k kind : Int} {T N E : List Nat} (h : OfTells (bsN s) k kind T N E) :
    Calls Tryz.prog 10 #[.string s] w fun e w' => Below w.heap.size w w' ∧ ∃ a1 c1 a2 c2, e = .returned (.tuple #[.agg #[.int .i64 kind, .string (strN T), .slice a1 N.length c1, .slice a2 E.length c2], .int .i64 k]) ∧ Sep w' w.heap.size [rw64 (.slice a1 N.length c1) N, rw64 (.slice a2 E.length c2) E] := by
  refine (p_of s n w hn hbig hH hB).mono ?_
  rintro e w' ⟨hb, kd, T', a1, c1, N', a2, c2, E', k', rfl, hsp, -, -, -, -, hQ⟩
  obtain ⟨rfl, rfl, rfl, rfl, rfl⟩ := hQ.one h
  exact ⟨hb, a1, c1, a2, c2, rfl, hsp⟩
theorem p_same_is (s t : ByteArray) (n m : Nat) (w : World) (hn : s.size = n) (hbig : n ≤ 1099511627776) (hm : t.size = m) (hbm : m ≤ 1099511627776) (hH : HT w) (hB : BT w) {v : Bool} (h : SameT (bsN s) (bsN t) v) :
    Calls Tryz.prog 15 #[.string s, .string t] w fun e w' => e = .returned (.bool v) ∧ Below w.heap.size w w' := by
  refine (p_same s t n m w hn hbig hm hbm hH hB).mono ?_
  rintro e w' ⟨⟨v', rfl, h'⟩, hb⟩
  rw [h'.one h]
  exact ⟨rfl, hb⟩
def aliceS : ByteArray := ⟨#[97, 108, 105, 99, 101]⟩
def polS : ByteArray := ⟨#[80, 79, 76, 73, 67, 89]⟩
def dsaS : ByteArray := ⟨#[100, 115, 97, 45, 104, 101, 120, 58, 48, 48]⟩
def badS : ByteArray := ⟨#[114, 115, 97, 45, 104, 101, 120, 58, 51, 48, 48, 54, 48, 50, 48, 49, 48, 53, 48, 50, 48, 49, 48, 51]⟩
def sgS : ByteArray := ⟨#[115, 105, 103, 45, 82, 83, 65, 45, 115, 104, 97, 49, 45, 104, 101, 120, 58, 48, 102, 70, 48]⟩
theorem of_opaque {l : List Nat} (h1 : l.length ≤ 65536) (h2 : l ≠ polW) (h3 : 58 ∉ l) : OfTells l 0 1 l [] [] :=
  .inr (.inr (.inl ⟨h1, h2, fun _ _ _ _ h => absurd h.nocol h3, rfl, rfl, rfl, rfl, rfl⟩))
theorem of_alice : OfTells (bsN aliceS) 0 1 (bsN aliceS) [] [] := of_opaque (by decide) (by decide) (by decide)
theorem of_pol : OfTells (bsN polS) 0 3 (bsN polS) [] [] := .inr (.inl ⟨by decide, rfl, rfl, rfl, rfl, rfl, rfl⟩)
theorem of_dsa : OfTells (bsN dsaS) 90 0 [] [] [] :=
  .inr (.inr (.inr (.inl ⟨by decide, [100, 115, 97, 45, 104, 101, 120], [100, 115, 97], hexW, [48, 48], ⟨rfl, by decide, rfl, .inl rfl⟩, ⟨by decide, fun c hc => by simp at hc; unfold isLD; omega⟩, by decide, rfl, rfl, rfl, rfl, rfl⟩)))
theorem num1s {n : Nat} (h : n ≠ 0) (hb : n < 18446744073709551616) : Num [n] n := ⟨fun x hx => by simp at hx; omega, fun _ => by simpa [at0] using h, by simp [val]⟩
def bad8 : List Nat := [48, 6, 2, 1, 5, 2, 1, 3]
theorem bad_dec : dec0 bad8 = (0, 5, 3) := by decide +kernel
theorem of_bad : OfTells (bsN badS) 80 0 [] [] [] :=
  .inr (.inr (.inr (.inr ⟨by decide, [114, 115, 97, 45, 104, 101, 120], hexW, [51, 48, 48, 54, 48, 50, 48, 49, 48, 53, 48, 50, 48, 49, 48, 51], ⟨rfl, by decide, rfl, .inl rfl⟩,
    ⟨0, bad8, .inl ⟨rfl, 0, .inl ⟨rfl, fun x hx => by simp [bad8] at hx; omega, rfl⟩, rfl⟩, .inr ⟨rfl, 0, [5], [3], KeyTells.yes bad_dec (num1s (by decide) (by decide)) (num1s (by decide) (by decide)), .inr (.inl ⟨rfl, by decide, rfl, rfl, rfl⟩)⟩⟩, .inl ⟨by decide, rfl, rfl⟩⟩)))
def sgF : List Nat := [115, 105, 103, 45, 82, 83, 65, 45, 115, 104, 97, 49, 45, 104, 101, 120]
theorem sig_lit : SigTells (bsN sgS) 0 (sgF ++ [58]) [15, 240] :=
  .inr (.inr ⟨by decide, sgF, hexW, [48, 102, 70, 48], ⟨rfl, by decide, rfl, .inl rfl⟩, .inl ⟨rfl, 0, .inl ⟨rfl, fun x hx => by simp at hx; omega, rfl⟩, rfl⟩, rfl⟩)
theorem rd_lit9 {w : World} (T : TypeId) (xs : List Nat) (cs : Array Value) (hc : cs = (u8s xs).toArray) : Rd .u8 (w.alloc (.cells cs T)) (some ⟨w.heap.size, 0, none⟩) xs := fun j hj => ⟨w.heap.size, 0, rfl, fun i hi => by
  rw [World.cell?_alloc_at _ _ _ _ rfl, hc]
  simp [u8s, hi, List.getD]⟩
theorem same_x : SameT [120] [120] true := .inr ⟨1, [120], [], [], 0, 1, [120], [], [], of_opaque (by decide) (by decide) (by decide), of_opaque (by decide) (by decide) (by decide), rfl⟩
theorem same_xX : SameT [120] [88] false := .inr ⟨1, [120], [], [], 0, 1, [88], [], [], of_opaque (by decide) (by decide) (by decide), of_opaque (by decide) (by decide) (by decide), rfl⟩
set_option maxHeartbeats 2000000 in
set_option maxRecDepth 100000 in
theorem works9 (w : World) (hH : HT w) (hB : BT w) :
    Calls Tryz.prog 19 #[] w fun e w' => e = .returned (.bool true) ∧ Below w.heap.size w w' := by
  have NS := Lib.hid (NE.start hH hB)
  clear hH hB
  go_enter Tryz.func19, Tryz.ntmps19
  go_wp2_with fail
  refine (p_of_is aliceS 5 _ rfl (by decide) NS.out.hh NS.out.bb of_alice).mono ?_
  rw [strN_bsN]
  rintro e w1 ⟨hb, a1, c1, a2', c2', rfl, -⟩
  have NS := Lib.hid ((NS.out.below hb).box [.int .i64 1, .string aliceS, .slice a1 0 c1, .slice a2' 0 c2'])
  clear hb
  go_wp2_with fail
  refine (p_of_is polS 6 _ rfl (by decide) NS.out.hh NS.out.bb of_pol).mono ?_
  rw [strN_bsN]
  rintro e w2 ⟨hb, a2, c2, b2, d2, rfl, -⟩
  have NS := Lib.hid ((NS.out.below hb).box [.int .i64 3, .string polS, .slice a2 0 c2, .slice b2 0 d2])
  clear hb
  go_wp2_with fail
  refine (p_of_is dsaS 10 _ rfl (by decide) NS.out.hh NS.out.bb of_dsa).mono ?_
  rw [show strN [] = ⟨#[]⟩ from rfl]
  rintro e w3 ⟨hb, a3, c3, b3, d3, rfl, -⟩
  have NS := Lib.hid ((NS.out.below hb).box [.int .i64 0, .string ⟨#[]⟩, .slice a3 0 c3, .slice b3 0 d3])
  clear hb
  go_wp2_with fail
  refine (p_of_is badS 24 _ rfl (by decide) NS.out.hh NS.out.bb of_bad).mono ?_
  rw [show strN [] = ⟨#[]⟩ from rfl]
  rintro e w4 ⟨hb, a4, c4, b4, d4, rfl, -⟩
  have NS := Lib.hid ((NS.out.below hb).box [.int .i64 0, .string ⟨#[]⟩, .slice a4 0 c4, .slice b4 0 d4])
  clear hb
  go_wp2_with fail
  refine (p_sig sgS 21 _ rfl (by decide) NS.out.hh NS.out.bb).mono ?_
  rintro e w5 ⟨hb, a5, c5, k5, p5, b5, rfl, ho, ht, -, -, hr5, hl5, -, -⟩
  obtain ⟨rfl, rfl, rfl⟩ := ht.one sig_lit
  have NS := Lib.hid (NS.out.bytes hb ho)
  have HR5 := Lib.hid hr5
  have hst : ((strN (sgF ++ [58])).toList == [115, 105, 103, 45, 82, 83, 65, 45, 115, 104, 97, 49, 45, 104, 101, 120, 58]) = true := by rw [beq_lit, bsN_strN (fun x hx => by simp [sgF] at hx; omega)]; decide
  obtain ⟨P5, hP5⟩ : ∃ P, P = strN (sgF ++ [58]) := ⟨_, rfl⟩
  rw [← hP5] at hst ⊢
  have hal : (aliceS.toList == [97, 108, 105, 99, 101]) = true := by rw [beq_lit]; decide
  obtain ⟨x0, x1, x2, x3⟩ := NS.out.get (g := w1.heap.size) (a := .int .i64 1) (b := .string aliceS) (c := .slice a1 0 c1) (d := .slice a2' 0 c2') (by simp)
  obtain ⟨y0, y1, y2, y3⟩ := NS.out.get (g := w2.heap.size) (a := .int .i64 3) (b := .string polS) (c := .slice a2 0 c2) (d := .slice b2 0 d2) (by simp)
  clear hb ho ht hr5 hl5 hP5
  go_wp2_with fail
  have hb7 : Below w5.heap.size w5 (w5.alloc (.cells #[.int .u8 15, .int .u8 240] 5)) := (Below.refl _ _).alloc (Nat.le_refl _) _
  refine (bytes_same a5 _ 2 c5 2 [15, 240] _ rfl (by decide) (HR5.out.below hb7) (rd_lit9 5 [15, 240] _ rfl)).mono ?_
  rintro e w6 ⟨rfl, nq, hw⟩
  have NS := Lib.hid ((NS.out.below hb7).below (show Below _ _ w6 by rw [hw]; exact Below.drewM (Below.refl _ _) nq))
  clear hw hb7
  go_wp2_with fail
  refine (p_same_is ⟨#[120]⟩ ⟨#[120]⟩ 1 1 _ rfl (by decide) rfl (by decide) NS.out.hh NS.out.bb same_x).mono ?_
  rintro e w7 ⟨rfl, hb⟩
  have NS := Lib.hid (NS.out.below hb)
  clear hb
  go_wp2_with fail
  refine (p_same_is ⟨#[120]⟩ ⟨#[88]⟩ 1 1 _ rfl (by decide) rfl (by decide) NS.out.hh NS.out.bb same_xX).mono ?_
  rintro e w8 ⟨rfl, hb⟩
  have NS := Lib.hid (NS.out.below hb)
  clear hb
  go_wp2
  go_ret
  exact ⟨rfl, NS.out.bl⟩
end Go.Proofs.YtaookoejdnkkoaaGreatDoor
