import Derived.Test.YtdaaapingaebkaaFdH
namespace Go.Proofs.Ytdaaapingaebkaa
open Go.RowKit

/-! fields: works; the field of a kind. -/
def walkF : Nat → List Nat → Nat → List Fd → Res
  | 0, l, _, fs => if hasK 2 fs then .ok fs else .bad l.length 134
  | n + 1, l, i, fs =>
    if i < l.length then
      if goesB (at0 l i) then walkF n l (i + behL (l.drop i)) fs
      else match begL l i with
        | none => .bad i 131
        | some f => if ordK fs f.k = 0 then walkF n l (i + behL (l.drop i)) (fs ++ [f]) else .bad i (ordK fs f.k)
    else if hasK 2 fs then .ok fs else .bad l.length 134
theorem walkF_eq (l : List Nat) : ∀ (n i : Nat) (fs : List Fd), l.length ≤ i + n → walkF n l i fs = walk l i fs
  | 0, i, fs, h => by rw [walk_end (by omega)]; rfl
  | n + 1, i, fs, h => by
    unfold walkF
    by_cases hi : i < l.length
    · have h1 : l.drop i ≠ [] := fun e => by have := congrArg List.length e; simp at this; omega
      have hp := behL_pos h1
      rw [if_pos hi]
      cases hg : goesB (at0 l i) with
      | true => rw [if_pos rfl, walk_goes hi hg]; exact walkF_eq l n _ _ (by omega)
      | false =>
        rw [if_neg (by decide)]
        cases hb : begL l i with
        | none => rw [walk_none hi hg hb]
        | some f => rw [walk_some hi hg hb, ← walkF_eq l n _ _ (by omega)]
    · rw [if_neg hi, walk_end (by omega)]
def splitF (l : List Nat) : Res :=
  (if 65536 < l.length then Res.bad 0 3
  else match badB l with
    | some i => .bad i 130
    | none => if l.isEmpty || goesB (at0 l 0) then .bad 0 131 else walkF l.length l 0 []).fin l.length
theorem splitF_eq (l : List Nat) : (splitR l).fin l.length = splitF l := by
  unfold splitR splitF
  rw [walkF_eq l l.length 0 [] (by omega)]
  rfl
/-- A row of fields, read. -/
theorem own_fd {w : World} {B n cap : Nat} {a : Option Addr} {fs : List Fd} (h : w.ownsRow B 28 4 (.slice a n cap) n (fs.flatMap Fd.cells)) (hn : fs.length = n) (h0 : 0 < n) :
    ∃ g, a = some ⟨g, 0, none⟩ ∧ B ≤ g ∧ ∀ i (hi : i < fs.length), w.rangeAt g (i * 4) (fs[i]).cells := by
  have h' := h
  rcases h.2 with ⟨_, h1⟩ | ⟨g, c, cur, hv, hb, rest⟩
  · omega
  · injection hv with e1 e2 e3
    subst e1 e3
    refine ⟨g, rfl, hb, fun i hi j v hj => ?_⟩
    have hj4 : j < 4 := by
      have := (List.getElem?_eq_some_iff.1 hj).1
      rwa [fd_len] at this
    rw [World.ownsRow.cellAt h' (i * 4 + j) (by omega), fdflat_at fs i hi j hj4]
    exact hj
theorem isRowField : ∃ d, Try.prog.underlying 28 = some d ∧ d.isRow = true := ⟨_, Try.underlying28, rfl⟩
/-- A whole field is loaded out of a row. -/
theorem wpl_loadFd {w : World} {ops : Array Oper} {rest : List Oper} {o : Oper} {a : Act} {Q : Exit → Act → World → Prop} (x : Operand) (ho : o.op = .load 28 x) (hgd : o.guard = none)
    {g off : Nat} (hx : a.eval x = .pointer (some ⟨g, off, none⟩)) {k fa fb fe : Nat} (hr : w.rangeAt g off (Fd.cells ⟨k, fa, fb, fe⟩))
    (h : wpList Try.prog ops Q rest (a.put o.dst (fdV k fa fb fe)) w) : wpList Try.prog ops Q (o :: rest) a w := by
  refine wpList_plain hgd fun K hK => ?_
  obtain ⟨d, hd, hd2⟩ := isRowField
  refine wp_load_mid _ x ho g off hx _ d hr hd hd2 ?_ (hK _ _ h)
  rw [infoF]
  rfl
theorem range4 {w : World} {g off : Nat} {a b c d : Value} (h : w.rangeAt g off [a, b, c, d]) :
    w.cell? ⟨g, off, none⟩ = some a ∧ w.cell? ⟨g, off + 1, none⟩ = some b ∧ w.cell? ⟨g, off + 2, none⟩ = some c ∧ w.cell? ⟨g, off + 3, none⟩ = some d :=
  ⟨h 0 a rfl, h 1 b rfl, h 2 c rfl, h 3 d rfl⟩
def worksL : List Nat := [65, 117, 116, 104, 111, 114, 105, 122, 101, 114, 58, 32, 34, 97, 34, 10, 67, 111, 110, 100, 105, 116, 105, 111, 110, 115, 58, 32, 120, 59, 10]
theorem works_split : splitF worksL = .ok [⟨2, 0, 11, 16⟩, ⟨5, 16, 27, 31⟩] := by kernel_rfl
set_option maxHeartbeats 1000000 in
set_option maxRecDepth 100000 in
theorem f_works (w : World) : Calls Try.prog 14 #[] w fun e w' => e = .returned (.bool true) ∧ Below w.heap.size w w' := by
  have HS := Lib.hid (f_Split (strN worksL) worksL.length w (strN_size _) _ (by rw [bsN_strN (show ∀ x ∈ worksL, x < 256 by decide), splitF_eq, works_split]))
  go_enter Try.func14, Try.ntmps14
  go_wp2_with fail
  refine (show Calls Try.prog 12 _ w _ from HS.out).mono ?_
  rintro e w1 ⟨⟨i1, c1, h1, h2, rfl⟩ | ⟨fs, a, cap, h1, h2, h3, rfl, h5⟩, hb⟩
  · cases h1
  · injection h1 with h1
    subst h1
    obtain ⟨g, rfl, hg, hr⟩ := own_fd h5 rfl (by decide)
    obtain ⟨a0, a1, a2, a3⟩ := range4 (show w1.rangeAt g 0 [.int .u8 2, .int .i64 0, .int .i64 11, .int .i64 16] from hr 0 (by decide))
    obtain ⟨b0, b1, b2, b3⟩ := range4 (show w1.rangeAt g 4 [.int .u8 5, .int .i64 16, .int .i64 27, .int .i64 31] from hr 1 (by decide))
    clear h2 h3 h5 hr
    have HB := Lib.hid hb
    clear hb
    go_wp2
    go_ret
    exact ⟨rfl, HB.out⟩
/-- The field of a kind. -/
def Res.pick (k : Nat) : Res → Option Fd
  | .bad _ _ => none
  | .ok fs => fs.find? fun f => decide (f.k = k)
def Res.code : Res → Nat
  | .bad _ c => c
  | .ok _ => 0
def FindRet (r : Res) (k : Nat) (e : Ending) : Prop :=
  (∃ kk fa fb fe, r.pick k = some ⟨kk, fa, fb, fe⟩ ∧ e = .returned (.tuple #[fdV kk fa fb fe, .bool true, .int .i64 0])) ∨ (r.pick k = none ∧ e = .returned (.tuple #[fdV 0 0 0 0, .bool false, .int .i64 (r.code : Nat)]))
theorem find_at {fs : List Fd} {k i : Nat} (hi : i < fs.length) (h1 : ∀ j (hj : j < fs.length), j < i → (fs[j]).k ≠ k) (h2 : (fs[i]).k = k) : fs.find? (fun f => decide (f.k = k)) = some fs[i] := by
  rw [List.find?_eq_some_iff_getElem]
  exact ⟨by simpa using h2, i, hi, rfl, fun j hj => by simpa using h1 j (by omega) hj⟩
theorem find_no {fs : List Fd} {k : Nat} (h1 : ∀ j (hj : j < fs.length), j < fs.length → (fs[j]).k ≠ k) : fs.find? (fun f => decide (f.k = k)) = none := by
  rw [List.find?_eq_none]
  intro f hf
  obtain ⟨i, hi, rfl⟩ := List.getElem_of_mem hf
  simpa using h1 i hi hi
set_option maxHeartbeats 1000000 in
set_option maxRecDepth 100000 in
theorem f_find (s : ByteArray) (n k : Nat) (w : World) (hn : s.size = n) (r : Res) (hr : (splitR (bsN s)).fin n = r) :
    Calls Try.prog 34 #[.string s, .int .u8 (k : Nat)] w fun e w' => FindRet r k e ∧ Below w.heap.size w w' := by
  have HS := Lib.hid (fun W => f_Split s n W hn r hr)
  have HCB : Hid (CB (w.alloc (.cells zeroF.toArray 28)) 28 w.heap.size zeroF) := CB.new w _ zeroF
  have HB0 : Hid (Below w.heap.size w (w.alloc (.cells zeroF.toArray 28))) := bel_alloc (Below.refl _ _) _
  clear hr
  go_enter Try.func34, Try.ntmps34
  go_wp2_with fail
  refine (HS.out _).mono ?_
  rintro e w1 ⟨⟨i1, c1, rfl, h2, rfl⟩ | ⟨fs, a, cap, rfl, h2, h3, rfl, h5⟩, hb⟩
  · have HB1 := Lib.hid (bel_next HB0.out hb)
    have HC1 := Lib.hid (CB.below HCB.out hb)
    clear h2 hb
    go_wp2
    go_loopw [20] (fun iv wr => iv = .int .i64 0 ∧ wr = w1) (fun _ _ => 0)
    case atStart => exact ⟨rfl, rfl⟩
    case round =>
      obtain ⟨rfl, rfl⟩ := hrel
      go_wp2_with (refine wpl_storeS 28 (.tmp 4) _ rfl rfl (t := 28) (g := w.heap.size) (cur := zeroF) (vs := #[.int .u8 0, .int .i64 0, .int .i64 0, .int .i64 0]) ?_ ?_ ?_ ?_ ?_ ?_ ?_; exact HC1.out; rfl; rfl; rfl; exact infoF; rfl; intro w5 hc5 hch5 hsz5)
      refine bodyPost_ret (results_cbT3 rfl rfl rfl rfl hc5 Try.underlying28 infoF) rfl ?_
      exact ⟨.inr ⟨rfl, rfl⟩, bel_store HB1.out hch5 (Nat.le_refl _)⟩
  · obtain ⟨g, rfl, hg, hrow⟩ := own_fd h5 rfl h2
    obtain ⟨len, hl⟩ : ∃ len, fs.length = len := ⟨_, rfl⟩
    rw [hl] at h2 h3
    have HL := Lib.hid hl
    have HROW := Lib.hid hrow
    have HB1 := Lib.hid (bel_next HB0.out hb)
    have HC1 := Lib.hid (CB.below HCB.out hb)
    rw [hl]
    clear hb h5 hg hrow hl
    go_wp2
    go_loopw [20] (fun iv wr => ∃ i : Nat, i ≤ len ∧ iv = .int .i64 (i : Nat) ∧ Hid (∀ j (hj : j < fs.length), j < i → (fs[j]).k ≠ k) ∧ Hid (Below w1.heap.size w1 wr)) (fun iv _ => len - (intOf iv).toNat)
    case atStart => exact ⟨0, Nat.zero_le _, rfl, fun j _ h => absurd h (Nat.not_lt_zero _), Below.refl _ _⟩
    case round =>
      obtain ⟨i, hi, rfl, HN, HB⟩ := hrel
      have HC2 := Lib.hid (CB.below HC1.out HB.out)
      have HB2 := Lib.hid (bel_next HB1.out HB.out)
      by_cases hin : i < len
      · have hif : i < fs.length := by rw [HL.out]; exact hin
        obtain ⟨f, hf⟩ : ∃ f, f = fs[i] := ⟨_, rfl⟩
        have hra := HROW.out i hif
        rw [← hf] at hra
        have hra2 : wr.rangeAt g (i * 4) f.cells := fun j v hv => below_cell HB.out _ _ (hra j v hv)
        obtain ⟨fk, fa, fb, fe⟩ := f
        have HRA := Lib.hid hra2
        have HF := Lib.hid hf
        clear hra hra2 hf
        by_cases hk : fk = k
        · have HFIND : Hid (Res.pick k (.ok fs) = some ⟨fk, fa, fb, fe⟩) := by
            show fs.find? _ = _
            rw [HF.out]
            exact find_at hif HN.out (by rw [← HF.out]; exact hk)
          have hkb : ((fk : Int) == (k : Int)) = true := by rw [hk]; simp
          clear hk
          go_wp2_with (first | (refine wpl_loadFd _ rfl rfl (g := g) (off := i * 4) (k := fk) (fa := fa) (fb := fb) (fe := fe) ?_ ?_ ?_; rfl; exact HRA.out; skip) | (refine wpl_storeS 28 (.tmp 4) _ rfl rfl (t := 28) (g := w.heap.size) (cur := zeroF) (vs := #[.int .u8 (fk : Nat), .int .i64 (fa : Nat), .int .i64 (fb : Nat), .int .i64 (fe : Nat)]) ?_ ?_ ?_ ?_ ?_ ?_ ?_; exact CB.alloc HC2.out _; rfl; rfl; rfl; exact infoF; rfl; intro w5 hc5 hch5 hsz5))
          refine bodyPost_ret (results_cbT3 rfl rfl rfl rfl hc5 Try.underlying28 infoF) rfl ?_
          exact ⟨.inl ⟨fk, fa, fb, fe, HFIND.out, rfl⟩, bel_store (bel_alloc HB2.out _) hch5 (Nat.le_refl _)⟩
        · have HN2 : Hid (∀ j (hj : j < fs.length), j < i + 1 → (fs[j]).k ≠ k) := fun j hj h => by
            by_cases he : j = i
            · subst he; rw [← HF.out]; exact hk
            · exact HN.out j hj (by omega)
          have hkb : ((fk : Int) == (k : Int)) = false := by simp; omega
          clear hk
          go_wp2_with (refine wpl_loadFd _ rfl rfl (g := g) (off := i * 4) (k := fk) (fa := fa) (fb := fb) (fe := fe) ?_ ?_ ?_; rfl; exact HRA.out; skip)
          go_roundw
          case rel => exact ⟨i + 1, by omega, by go_num, HN2.out, bel_alloc HB.out _⟩
          case measure => simp [intOf]; omega
      · obtain rfl : i = len := by omega
        have HFIND : Hid (Res.pick k (.ok fs) = none) := find_no fun j hj _ => HN.out j hj (by rw [← HL.out]; exact hj)
        go_wp2_with (refine wpl_storeS 28 (.tmp 4) _ rfl rfl (t := 28) (g := w.heap.size) (cur := zeroF) (vs := #[.int .u8 0, .int .i64 0, .int .i64 0, .int .i64 0]) ?_ ?_ ?_ ?_ ?_ ?_ ?_; exact HC2.out; rfl; rfl; rfl; exact infoF; rfl; intro w5 hc5 hch5 hsz5)
        refine bodyPost_ret (results_cbT3 rfl rfl rfl rfl hc5 Try.underlying28 infoF) rfl ?_
        exact ⟨.inr ⟨HFIND.out, rfl⟩, bel_store HB2.out hch5 (Nat.le_refl _)⟩
end Go.Proofs.Ytdaaapingaebkaa
