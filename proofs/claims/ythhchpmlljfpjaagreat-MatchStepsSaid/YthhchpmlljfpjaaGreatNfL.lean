import Derived.Test.YthhchpmlljfpjaaGreatNfD
namespace Go.Proofs.YthhchpmlljfpjaaGreat
open Go.RowKit

/-! Rows of states that are only read. -/
theorem stcells_len (s : St) : s.cells.length = 7 := rfl
theorem stflat_at : ∀ (L : List St) (i : Nat) (h : i < L.length) (j : Nat), j < 7 → (L.flatMap St.cells)[7 * i + j]? = (L[i]).cells[j]?
  | [], i, h, _, _ => by cases h
  | t :: ts, 0, _, j, hj => by rw [List.flatMap_cons, List.getElem?_append_left (by rw [stcells_len]; omega)]; simp
  | t :: ts, i + 1, h, j, hj => by
    rw [List.flatMap_cons, List.getElem?_append_right (by rw [stcells_len]; omega), stcells_len, show 7 * (i + 1) + j - 7 = 7 * i + j by omega]
    exact stflat_at ts i (by simpa using h) j hj
theorem st_elem {w : World} {a : Option Addr} {L : List St} (h : RowAt w a (L.flatMap St.cells)) {i : Nat} (hi : i < L.length) : ∃ b off, a = some ⟨b, off, none⟩ ∧ w.rangeAt b (off + i * 7) (L[i]).cells := by
  rcases h with h | ⟨b, off, e, h⟩
  · have := stflat_at L i hi 0 (by omega)
    rw [h] at this
    cases this
  · refine ⟨b, off, e, fun j v hv => ?_⟩
    have hj : j < 7 := by
      have := (List.getElem?_eq_some_iff.1 hv).1
      rw [stcells_len] at this
      exact this
    rw [← stflat_at L i hi j hj] at hv
    have := h _ _ hv
    rw [show off + i * 7 + j = off + (7 * i + j) by omega]
    exact this
theorem isRowState : ∃ d, Tryz.prog.underlying 48 = some d ∧ d.isRow = true := ⟨_, Tryz.underlying48, rfl⟩
/-- A whole state is loaded out of a row. -/
theorem wpl_loadSt {w : World} {ops : Array Oper} {rest : List Oper} {o : Oper} {a : Act} {Q : Exit → Act → World → Prop} (x : Operand) (ho : o.op = .load 48 x) (hgd : o.guard = none)
    {g off : Nat} (hx : a.eval x = .pointer (some ⟨g, off, none⟩)) {k : Int} {s : S4} {x1 y1 : Int} (hr : w.rangeAt g off (St.cells ⟨k, s, x1, y1⟩))
    (h : wpList Tryz.prog ops Q rest (a.put o.dst (stVal k s x1 y1)) w) : wpList Tryz.prog ops Q (o :: rest) a w := by
  refine wpList_plain hgd fun K hK => ?_
  obtain ⟨d, hd, hd2⟩ := isRowState
  refine wp_load_mid _ x ho g off hx _ d hr hd hd2 ?_ (hK _ _ h)
  rw [infoSt]
  rfl
theorem own_rowAt {w : World} {B n : Nat} {a : Option Addr} {l c : Nat} {L : List St} (h : w.ownsRow B 48 7 (.slice a l c) n (L.flatMap St.cells)) (hn : n = L.length) : RowAt w a (L.flatMap St.cells) := by
  rcases h.2 with ⟨h1, h0⟩ | ⟨g, cap, cur, h1, hb, hg, _⟩
  · have : L = [] := List.length_eq_zero_iff.1 (by omega)
    subst this
    exact .inl rfl
  · injection h1 with h1 h2 h3
    subst h1
    exact .inr ⟨g, 0, rfl, fun j v hv => by
      have := h.cells (g := g) (by rw [h2, h3]; rfl) j v hv
      rw [show (⟨g, 0, none⟩ : Addr).add j = ⟨g, 0 + j, none⟩ by unfold Addr.add; split <;> simp_all] at this
      exact this⟩
theorem range7 {w : World} {g off : Nat} {a b c d e f x : Value} (h : w.rangeAt g off [a, b, c, d, e, f, x]) :
    w.cell? ⟨g, off, none⟩ = some a ∧ w.cell? ⟨g, off + 1, none⟩ = some b ∧ w.cell? ⟨g, off + 2, none⟩ = some c ∧ w.cell? ⟨g, off + 3, none⟩ = some d ∧ w.cell? ⟨g, off + 4, none⟩ = some e ∧ w.cell? ⟨g, off + 5, none⟩ = some f ∧ w.cell? ⟨g, off + 6, none⟩ = some x :=
  ⟨h 0 a rfl, h 1 b rfl, h 2 c rfl, h 3 d rfl, h 4 e rfl, h 5 f rfl, h 6 x rfl⟩
@[go_sem] theorem eqSet9 (a b c d e f g h : Int) (w : World) : (Op.equalIn 9999 39 (.agg #[.int .u64 a, .int .u64 b, .int .u64 c, .int .u64 d]) (.agg #[.int .u64 e, .int .u64 f, .int .u64 g, .int .u64 h])).run Tryz.prog w = .ok (a == e && (b == f && (c == g && d == h))) w := by
  have u3 := Tryz.underlying37
  have a3 := Tryz.isAgg37
  have z3 := Tryz.sizeOf37
  rw [show (9999 : Nat) = 9998 + 1 from rfl, Op.equalIn]
  simp only [Sem.run_bind, run_underlying Tryz.underlying39, Result.andThen_ok]
  simp only [Std.Legacy.Range.forIn_eq_forIn_range', Std.Legacy.Range.size, Nat.sub_zero, Nat.add_sub_cancel, Nat.div_one, List.range'_succ, List.range'_zero, List.forIn_cons, List.forIn_nil]
  go_simp
  by_cases h1 : a = e <;> by_cases h2 : b = f <;> by_cases h3 : c = g <;> by_cases h4 : d = h <;> simp [h1, h2, h3, h4]
set_option maxHeartbeats 1000000 in
set_option maxRecDepth 100000 in
/-- Two machines of the same states and start. -/
theorem p_sameNfa (L : List St) (a a' : Option Addr) (c c' : Nat) (q : Int) (w : World) (hlen : L.length ≤ 1099511627776) (h1 : RowAt w a (L.flatMap St.cells)) (h2 : RowAt w a' (L.flatMap St.cells)) :
    Calls Tryz.prog 17 #[.agg #[.slice a L.length c, .int .i64 q], .agg #[.slice a' L.length c', .int .i64 q]] w fun e w' => e = .returned (.bool true) ∧ Below w.heap.size w w' := by
  obtain ⟨len, hl⟩ : ∃ len, L.length = len := ⟨_, rfl⟩
  rw [hl] at hlen ⊢
  have HR1 := Lib.hid h1
  have HR2 := Lib.hid h2
  have HL := Lib.hid hl
  obtain ⟨W1, hW1⟩ : ∃ W1, (w.alloc (.cells #[.slice a len c, .int .i64 q] 24)).alloc (.cells #[.slice a' len c', .int .i64 q] 24) = W1 := ⟨_, rfl⟩
  have HC1 : Hid (CB W1 24 w.heap.size [.slice a len c, .int .i64 q]) := by rw [← hW1]; exact CB.alloc (CB.new w _ _) _
  have HC2 : Hid (CB W1 24 (w.heap.size + 1) [.slice a' len c', .int .i64 q]) := by rw [← hW1]; exact cb2 w _ _ _
  have HBW : Hid (Below w.heap.size w W1) := by rw [← hW1]; exact ((Below.refl _ _).alloc (Nat.le_refl _) _).alloc (by go_size) _
  have HW1 := Lib.hid hW1
  clear h1 h2 hl hW1
  go_enter Tryz.func17, Tryz.ntmps17
  go_wp2
  rw [HW1.out]
  go_loopw [5] (fun iv wr => ∃ i : Nat, i ≤ len ∧ iv = .int .i64 (i : Nat) ∧ Hid (Below W1.heap.size W1 wr)) (fun iv _ => len - (intOf iv).toNat)
  case atStart => exact ⟨0, by omega, rfl, Below.refl _ _⟩
  case round =>
    obtain ⟨i, hi, rfl, HB⟩ := hrel
    obtain ⟨⟨x0, x1⟩, _⟩ := CB.two (CB.below HC1.out HB.out)
    obtain ⟨⟨y0, y1⟩, _⟩ := CB.two (CB.below HC2.out HB.out)
    have HBr : Hid (Below w.heap.size w wr) := HBW.out.trans (HB.out.mono HBW.out.size)
    by_cases hlt : i < len
    · have hip : i < L.length := by rw [HL.out]; exact hlt
      obtain ⟨b, off, rfl, hra⟩ := st_elem HR1.out hip
      obtain ⟨b', off', rfl, hra'⟩ := st_elem HR2.out hip
      obtain ⟨s, hs⟩ : ∃ s, L[i] = s := ⟨_, rfl⟩
      rw [hs] at hra hra'
      obtain ⟨sk, ss, sx, sy⟩ := s
      have r1 : wr.rangeAt b (off + i * 7) (St.cells ⟨sk, ss, sx, sy⟩) := fun j v hv => below_cell HBr.out _ _ (hra j v hv)
      have r2 : wr.rangeAt b' (off' + i * 7) (St.cells ⟨sk, ss, sx, sy⟩) := fun j v hv => below_cell HBr.out _ _ (hra' j v hv)
      obtain ⟨a0, a1, a2, a3, a4, a5, a6⟩ := range7 (show wr.rangeAt b (off + i * 7) [.int .i64 sk, .int .u64 (ss.a : Nat), .int .u64 (ss.b : Nat), .int .u64 (ss.c : Nat), .int .u64 (ss.d : Nat), .int .i64 sx, .int .i64 sy] from r1)
      obtain ⟨b0, b1, b2, b3, b4, b5, b6⟩ := range7 (show wr.rangeAt b' (off' + i * 7) [.int .i64 sk, .int .u64 (ss.a : Nat), .int .u64 (ss.b : Nat), .int .u64 (ss.c : Nat), .int .u64 (ss.d : Nat), .int .i64 sx, .int .i64 sy] from r2)
      clear hra hra' r1 r2 hs
      go_wp2
      go_region
      all_goals
        go_wp2
        go_roundw
        case rel => exact ⟨i + 1, by omega, by go_num, HB.out.drew⟩
        case measure => simp [intOf]; omega
    · obtain rfl : i = len := by omega
      go_wp2
      go_ret
      exact ⟨rfl, HBr.out⟩
end Go.Proofs.YthhchpmlljfpjaaGreat
