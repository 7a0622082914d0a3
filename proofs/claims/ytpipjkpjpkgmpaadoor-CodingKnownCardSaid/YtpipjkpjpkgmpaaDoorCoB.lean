import Derived.Test.YtpipjkpjpkgmpaaDoorGA
import Derived.Test.YtpipjkpjpkgmpaaDoorGB
import Derived.Test.YtpipjkpjpkgmpaaDoorGC
import Derived.Test.YtpipjkpjpkgmpaaDoorCoA
import Derived.Deep.RegionLaw
import Derived.Lib.Hide
namespace Go.Proofs.YtpipjkpjpkgmpaaDoor
open Go.RowKit

/-- A text of bytes that are numbers. -/
def strN (l : List Nat) : ByteArray := ⟨(l.map UInt8.ofNat).toArray⟩
theorem strN_size (l : List Nat) : (strN l).size = l.length := by
  show ((l.map UInt8.ofNat).toArray).size = _
  simp
/-- The numbers of a text. -/
def bsN (s : ByteArray) : List Nat := s.data.toList.map UInt8.toNat
theorem bsN_len (s : ByteArray) : (bsN s).length = s.size := by
  show _ = s.data.size
  simp [bsN]
theorem bsN_8 (s : ByteArray) : B8 (bsN s) := fun x hx => by
  obtain ⟨c, _, rfl⟩ := List.mem_map.1 hx
  exact c.toNat_lt
theorem bsN_strN {l : List Nat} (h : B8 l) : bsN (strN l) = l := by
  unfold bsN strN
  rw [List.map_map]
  refine (List.map_congr_left fun x hx => ?_).trans (List.map_id l)
  have := h x hx
  show (UInt8.ofNat x).toNat = x
  rw [UInt8.toNat_ofNat', Nat.mod_eq_of_lt this]
theorem strN_bsN (s : ByteArray) : strN (bsN s) = s := by
  obtain ⟨⟨l⟩⟩ := s
  unfold strN bsN
  rw [List.map_map]
  have e : l.map (UInt8.ofNat ∘ UInt8.toNat) = l := (List.map_congr_left fun c _ => (by show UInt8.ofNat c.toNat = c; exact UInt8.ofNat_toNat)).trans (List.map_id l)
  rw [e]
/-- A new row of bytes, empty yet. -/
theorem wpl_room8 {w : World} {ops : Array Oper} {rest : List Oper} {o : Oper} {a : Act} {Q : Exit → Act → World → Prop} (hg : o.guard = none) (l c : Operand) (hop : o.op = Op.makeSlice 25 l c)
    (B : Nat) (kl kc : IntKind) (C : Int) (n : Nat) (hl : a.eval l = .int kl 0) (hc : a.eval c = .int kc C) (hC : C = (n : Int)) (hn : n ≤ 4398046511104) (hB : B ≤ w.heap.size)
    (hK : ∀ w', w'.ownsRow B 5 1 (.slice (some ⟨w.heap.size, 0, none⟩) 0 n) 0 [] → Below B w w' → w.heap.size < w'.heap.size → wpList Tryd.prog ops Q rest (a.put o.dst (.slice (some ⟨w.heap.size, 0, none⟩) 0 n)) w') :
    wpList Tryd.prog ops Q (o :: rest) a w := by
  obtain ⟨i, hi, hz, hsz, hb⟩ := info_parts info8
  refine wpList_plain hg fun K hK' => ?_
  obtain ⟨w', hr, hown, hgr⟩ := run_make_own (P := Tryd.prog) w B 25 5 i (.int .u8 0) 1 Tryd.underlying25 hi hz hsz kl kc n (by rw [hb]; omega) (by simp only [maxLen]; omega) hB
  subst hC
  unfold Oper.wp execOp
  simp only [hop, Sem.run_bind, Sem.run_pure, Result.andThen_ok, hl, hc, hr]
  exact hK' _ _ (hK w' hown ((Below.refl _ _).grown hgr hB (fun k hk => by cases hk)) (World.ownsRow.lt hown _ rfl).2)
/-- A row of bytes as a text. -/
theorem own_text {w : World} {B n : Nat} {v : Value} {zs : List Nat} (h : w.ownsRow B 5 1 v n (u8s zs)) (hn : zs.length = n) :
    ∀ dst, Tryd.prog.underlying dst = some .string → (convert 25 dst v).run Tryd.prog w = .ok (.string (strN zs)) w := by
  intro dst hd
  rcases h.2 with ⟨rfl, h0⟩ | ⟨g, c1, cur, rfl, _, _, _, _, _, _⟩
  · have e : zs = [] := List.eq_nil_of_length_eq_zero (by omega)
    subst e
    exact run_convert_bytes_nil (P := Tryd.prog) w 25 5 Tryd.underlying25 Tryd.underlying5 0 0 dst hd
  · have := run_convert_bytes_arg (P := Tryd.prog) w 25 5 Tryd.underlying25 Tryd.underlying5 g 0 n c1 (zs.map fun (x : Nat) => (x : Int)) (by simp [hn]) (fun i hi => by
      rw [Nat.zero_add, World.ownsRow.cellAt h i (by omega), u8s_at zs i (by omega)]
      simp [at0_getElem, hn, hi, List.getD]) dst hd
    rw [this]
    simp [strOfNums, strN, Function.comp_def]

/-- Elements behind a row, as a step of a region that draws. -/
theorem step_appN (T E : TypeId) (hT : Tryd.prog.underlying T = some (.slice E)) {z : Value} {bytes : Nat} (hI : (Tryd.prog.info? E).map (fun i => (i.zero, i.size, i.bytes)) = some (some z, 1, bytes)) (hzs : z.cells.size = 1) (hby : bytes ≤ 32)
    {w : World} {ops : Array Oper} {o : Oper} {a : Act} {Q : Exit → Act → World → Prop} {K : Act → World → Prop} {F : Prop} (hgd : o.guard = none) (s x : Operand)
    (ho : o.op = .call { callee := .builtin .append, args := #[s, x], argTypes := #[T, T] })
    (B : Nat) (v : Value) (n : Nat) (xs : List Value) (hs : a.eval s = v) (hown : w.ownsRow B E 1 v n xs) (ad : Option Addr) (m c : Nat) (hx : a.eval x = .slice ad m c) (news : List Value) (hl : news.length = m)
    (hc : 0 < m → ∃ p, ad = some p ∧ ∀ (j : Nat) u, news[j]? = some u → w.cell? (p.add j) = some u) (h0 : m = 0 → ad = none → c = 0) (h1 : ∀ u ∈ news, u.oneCell' = true) (hn : n + m ≤ 4398046511104) (hB : B ≤ w.heap.size)
    (h : ∀ v' w', w'.ownsRow B E 1 v' (n + m) (xs ++ news) → w.grownBy w' v.ownBlock → Hid (∀ k, v'.ownBlock = some k → v.ownBlock = some k ∨ k = w.heap.size) → Hid (v.ownBlock = none → n + m = 0 → v' = .slice none 0 0) →
      K (a.put o.dst v') w') :
    if Region.wanted o (yielded ops a.tmps) = true then Oper.wp Tryd.prog o a w K Q else F := by
  have hw : Region.wanted o (yielded ops a.tmps) = true := by simp [Region.wanted, hgd]
  rw [if_pos hw]
  obtain ⟨v', w', hr, hown', hg, hor, hnil⟩ := run_appN (P := Tryd.prog) T o.type E hT hI hzs hby B v n xs hown ad m c news hl hc h0 h1 hn hB
  unfold Oper.wp execOp
  simp only [ho, resolve, invoke, builtin, Sem.run_bind, Sem.run_pure, Result.andThen_ok, List.map_toArray, List.map_cons, List.map_nil, hs, hx, hr]
  exact h v' w' hown' hg hor hnil

theorem u8s_one8 (l : List Nat) : ∀ v ∈ u8s l, v.oneCell' = true := by
  intro v hv
  obtain ⟨x, _, rfl⟩ := List.mem_map.1 hv
  rfl
/-- Two new bytes in a literal. -/
theorem news2 (w : World) (T : TypeId) (x y : Nat) : 0 < 2 → ∃ p, some (⟨w.heap.size, 0, none⟩ : Addr) = some p ∧ ∀ (j : Nat) u, (u8s [x, y])[j]? = some u → (w.alloc (.cells #[.int .u8 (x : Nat), .int .u8 (y : Nat)] T)).cell? (p.add j) = some u := by
  refine fun _ => ⟨_, rfl, fun j u hj => ?_⟩
  have e2 : (⟨w.heap.size, 0, none⟩ : Addr).add j = ⟨w.heap.size, j, none⟩ := by unfold Addr.add; split <;> simp_all
  rw [e2, World.cell?_alloc_at _ _ _ _ rfl]
  simpa [u8s] using hj

def hexLit : ByteArray := ⟨#[48, 49, 50, 51, 52, 53, 54, 55, 56, 57, 97, 98, 99, 100, 101, 102]⟩
set_option maxRecDepth 10000 in
theorem hexLit_at (d : Nat) (h : d < 16) : (hexLit[d]'h).toNat = hexD d := by
  have : ∀ d : Fin 16, (hexLit[d.val]'d.isLt).toNat = hexD d.val := by decide
  exact this ⟨d, h⟩
set_option maxRecDepth 10000 in
theorem and15 (x : Nat) (h : x < 256) : bits BinOp.and IntKind.u8 (x : Int) 15 = ((x % 16 : Nat) : Int) := by
  have : ∀ x : Fin 256, bits BinOp.and IntKind.u8 (x.val : Int) 15 = ((x.val % 16 : Nat) : Int) := by decide
  exact this ⟨x, h⟩
theorem wrap_u8_in (d : Nat) (h : d < 256) : IntKind.u8.wrap (d : Int) = (d : Int) := by
  rw [show IntKind.u8.wrap (d : Int) = (d : Int) % 256 from by simp [IntKind.wrap, IntKind.signed, IntKind.bits]]
  omega
theorem hexL_take (xs : List Nat) (k : Nat) (h : k < xs.length) {x : Nat} (hx : xs.getD k 0 = x) : hexL (xs.take (k + 1)) = hexL (xs.take k) ++ [hexD (x / 16), hexD (x % 16)] := by
  rw [take_succ_at0 h, hexL_snoc, ← hx]; rfl
theorem idx_hex {P : Program} (T : TypeId) (hT : P.underlying T = some .string) (k : IntKind) (d : Nat) (h : d < 16) (W : World) : (Instr.index T (.string ⟨#[48, 49, 50, 51, 52, 53, 54, 55, 56, 57, 97, 98, 99, 100, 101, 102]⟩) (.int k (d : Int))).run P W = .ok (.int .u8 (hexD d : Nat)) W := by
  rw [show (⟨#[48, 49, 50, 51, 52, 53, 54, 55, 56, 57, 97, 98, 99, 100, 101, 102]⟩ : ByteArray) = hexLit from rfl, run_index_string _ _ _ _ _ hT, dif_pos ⟨by omega, by show (d : Int) < 16; omega⟩]
  rw [← hexLit_at d h]
  rfl

set_option maxHeartbeats 800000 in
set_option maxRecDepth 100000 in
theorem hex_any (a : Option Addr) (len cap : Nat) (xs : List Nat) (w : World) (hl : xs.length = len) (hbig : len ≤ 1099511627776) (hr : Rd .u8 w a xs) (h8 : B8 xs) :
    Calls Tryd.prog 24 #[.slice a len cap] w fun e w' => e = .returned (.string (strN (hexL xs))) ∧ Below w.heap.size w w' := by
  go_enter Tryd.func24, Tryd.ntmps24
  go_wp2_with (at_make; refine wpl_room8 rfl _ _ rfl w.heap.size _ _ _ (2 * len) rfl rfl (by omega) (by omega) (Nat.le_refl _) ?_; intro w1 hown0 hb0 hlt0)
  have hown0 := Lib.hid hown0
  have hb0 := Lib.hid hb0
  go_loopw [3, 12] (fun v i wr => ∃ k : Nat, k ≤ len ∧ i = .int .i64 (k : Nat) ∧ wr.ownsRow w.heap.size 5 1 v (2 * k) (u8s (hexL (xs.take k))) ∧ Below w.heap.size w wr) (fun _ i _ => len - (intOf i).toNat)
  case atStart => exact ⟨0, Nat.zero_le _, rfl, hown0.out, hb0.out⟩
  case round =>
    obtain ⟨k, hk, rfl, hown, hb⟩ := hrel
    by_cases hlt : k < len
    · obtain ⟨b, off, rfl, hc⟩ := hr.get (by omega)
      have hcell : wr.cell? ⟨b, off + k, none⟩ = some (.int .u8 (xs.getD k 0 : Nat)) := below_cell hb _ _ (hc k (by omega))
      clear hc hr
      generalize hx0 : xs.getD k 0 = x at hcell
      have hx := Lib.hid hx0
      clear hx0
      have HB := Lib.hid hb
      have HO := Lib.hid hown
      clear hb hown hown0 hb0
      have h8x : x < 256 := by rw [← hx.out]; exact (by simp [List.getD, hl, hlt]; exact h8 _ (List.getElem_mem _))
      obtain ⟨d1, hd1⟩ : ∃ d, d = x / 16 := ⟨_, rfl⟩
      obtain ⟨d2, hd2⟩ : ∃ d, d = x % 16 := ⟨_, rfl⟩
      have e1 : (x : Int) / 16 = (d1 : Int) := by omega
      have e2 : bits BinOp.and IntKind.u8 (x : Int) 15 = (d2 : Int) := by rw [hd2]; exact and15 x h8x
      have i1 : ∀ W, (Instr.index 9 (.string ⟨#[48, 49, 50, 51, 52, 53, 54, 55, 56, 57, 97, 98, 99, 100, 101, 102]⟩) (.int .u8 (d1 : Int))).run Tryd.prog W = .ok (.int .u8 (hexD d1 : Nat)) W := idx_hex 9 Tryd.underlying9 .u8 d1 (by omega)
      have i2 : ∀ W, (Instr.index 9 (.string ⟨#[48, 49, 50, 51, 52, 53, 54, 55, 56, 57, 97, 98, 99, 100, 101, 102]⟩) (.int .u8 (d2 : Int))).run Tryd.prog W = .ok (.int .u8 (hexD d2 : Nat)) W := idx_hex 9 Tryd.underlying9 .u8 d2 (by omega)
      have HD1 := Lib.hid hd1
      have HD2 := Lib.hid hd2
      clear hd1 hd2
      obtain ⟨y1, hy1⟩ : ∃ y, y = hexD d1 := ⟨_, rfl⟩
      obtain ⟨y2, hy2⟩ : ∃ y, y = hexD d2 := ⟨_, rfl⟩
      rw [← hy1] at i1
      rw [← hy2] at i2
      have HS : Hid (hexL (xs.take (k + 1)) = hexL (xs.take k) ++ [y1, y2]) := by
        show _ = _
        rw [hexL_take xs k (by omega) hx.out, hy1, hy2, HD1.out, HD2.out]
      have HL : Hid ((hexL (xs.take k)).length = 2 * k) := by show _ = _; rw [hexL_len]; simp; omega
      clear hy1 hy2
      generalize hexL (xs.take k) = T at *
      have hB := HB.out.size
      go_wp2_with fail
      go_region_law ((refine step_appN 25 5 Tryd.underlying25 info8 rfl (by decide) rfl (.tmp 16) (.tmp 23) rfl w.heap.size u3 (2 * k) (u8s T) rfl (World.ownsRow.alloc (w := wr.drew) HO.out _) (some ⟨wr.heap.size, 0, none⟩) 2 2 rfl (u8s [y1, y2]) rfl (news2 wr.drew _ y1 y2) (fun h => by cases h) (u8s_one8 _) (by omega) (by simp; omega) ?_; intro v1 w1 hown1 hg1 _ _))
      all_goals
        have hown2 : w1.ownsRow w.heap.size 5 1 v1 (2 * (k + 1)) (u8s (T ++ [y1, y2])) := by rw [show u8s (T ++ [y1, y2]) = u8s T ++ u8s [y1, y2] by simp [u8s]]; exact hown1
        have hb2 : Below w.heap.size w w1 := ((HB.out.alloc (by omega) _).drew).grown hg1 (by show _ ≤ Array.size (Array.push _ _); simp; omega) (fun j hj => (World.ownsRow.lt HO.out j hj).1)
        rw [← HS.out] at hown2
        have HO2 := Lib.hid hown2
        have HB2 := Lib.hid hb2
        clear hown1 hown2 hb2 hg1 HS HL HO HB i1 i2 e1 e2 hcell hx
        go_wp2
        go_roundw
        case rel => exact ⟨k + 1, by omega, by go_num, HO2.out, HB2.out⟩
        case measure => simp [intOf]; omega
    · obtain rfl : k = len := by omega
      rw [List.take_of_length_le (by omega)] at hown
      have ht := own_text hown (by rw [hexL_len]; omega)
      go_wp2
      go_ret
      exact ⟨rfl, hb⟩

set_option maxHeartbeats 800000 in
set_option maxRecDepth 100000 in
theorem rhex_any (a : Option Addr) (len cap : Nat) (xs : List Nat) (w : World) (hl : xs.length = len) (hbig : len ≤ 1099511627776) (hr : Rd .u8 w a xs) (h8 : B8 xs) :
    Calls Tryd.prog 25 #[.slice a len cap] w fun e w' => e = .returned (.string (strN (hexL xs))) ∧ Below w.heap.size w w' := by
  go_enter Tryd.func25, Tryd.ntmps25
  go_wp2_with fail
  go_loopw [3, 4] (fun v i wr => ∃ k : Nat, k ≤ len ∧ i = .int .i64 (k : Nat) ∧ wr.ownsRow w.heap.size 5 1 v (2 * k) (u8s (hexL (xs.take k))) ∧ Below w.heap.size w wr) (fun _ i _ => len - (intOf i).toNat)
  case atStart => exact ⟨0, Nat.zero_le _, rfl, World.ownsRow_nil _ _ _ _, Below.refl _ _⟩
  case round =>
    obtain ⟨k, hk, rfl, hown, hb⟩ := hrel
    by_cases hlt : k < len
    · obtain ⟨b, off, rfl, hc⟩ := hr.get (by omega)
      have hcell : wr.cell? ⟨b, off + k, none⟩ = some (.int .u8 (xs.getD k 0 : Nat)) := below_cell hb _ _ (hc k (by omega))
      clear hc hr
      generalize hx0 : xs.getD k 0 = x at hcell
      have hx := Lib.hid hx0
      clear hx0
      have HB := Lib.hid hb
      have HO := Lib.hid hown
      clear hb hown
      have h8x : x < 256 := by rw [← hx.out]; exact (by simp [List.getD, hl, hlt]; exact h8 _ (List.getElem_mem _))
      obtain ⟨d1, hd1⟩ : ∃ d, d = x / 16 := ⟨_, rfl⟩
      obtain ⟨d2, hd2⟩ : ∃ d, d = x % 16 := ⟨_, rfl⟩
      have e1 : (x : Int) / 16 = (d1 : Int) := by omega
      have e2 : (x : Int) % 16 = (d2 : Int) := by omega
      have e5 : (x : Int).tmod 16 = (d2 : Int) := by rw [Int.tmod_eq_emod_of_nonneg (by omega)]; exact e2
      have e3 : IntKind.u8.wrap (d1 : Int) = (d1 : Int) := (wrap_u8_in d1 (by omega))
      have e4 : IntKind.u8.wrap (d2 : Int) = (d2 : Int) := (wrap_u8_in d2 (by omega))
      have i1 : ∀ W, (Instr.index 9 (.string ⟨#[48, 49, 50, 51, 52, 53, 54, 55, 56, 57, 97, 98, 99, 100, 101, 102]⟩) (.int .u8 (d1 : Int))).run Tryd.prog W = .ok (.int .u8 (hexD d1 : Nat)) W := idx_hex 9 Tryd.underlying9 .u8 d1 (by omega)
      have i2 : ∀ W, (Instr.index 9 (.string ⟨#[48, 49, 50, 51, 52, 53, 54, 55, 56, 57, 97, 98, 99, 100, 101, 102]⟩) (.int .u8 (d2 : Int))).run Tryd.prog W = .ok (.int .u8 (hexD d2 : Nat)) W := idx_hex 9 Tryd.underlying9 .u8 d2 (by omega)
      have HD1 := Lib.hid hd1
      have HD2 := Lib.hid hd2
      clear hd1 hd2
      obtain ⟨y1, hy1⟩ : ∃ y, y = hexD d1 := ⟨_, rfl⟩
      obtain ⟨y2, hy2⟩ : ∃ y, y = hexD d2 := ⟨_, rfl⟩
      rw [← hy1] at i1
      rw [← hy2] at i2
      have HS : Hid (hexL (xs.take (k + 1)) = hexL (xs.take k) ++ [y1, y2]) := by
        show _ = _
        rw [hexL_take xs k (by omega) hx.out, hy1, hy2, HD1.out, HD2.out]
      have HL : Hid ((hexL (xs.take k)).length = 2 * k) := by show _ = _; rw [hexL_len]; simp; omega
      clear hy1 hy2
      generalize hexL (xs.take k) = T at *
      have hB := HB.out.size
      go_wp2_with fail
      go_region_law ((refine step_appN 25 5 Tryd.underlying25 info8 rfl (by decide) rfl (.tmp 11) (.tmp 24) rfl w.heap.size u3 (2 * k) (u8s T) rfl (World.ownsRow.alloc (w := wr.drew) HO.out _) (some ⟨wr.heap.size, 0, none⟩) 2 2 rfl (u8s [y1, y2]) rfl (news2 wr.drew _ y1 y2) (fun h => by cases h) (u8s_one8 _) (by omega) (by simp; omega) ?_; intro v1 w1 hown1 hg1 _ _))
      all_goals
        have hown2 : w1.ownsRow w.heap.size 5 1 v1 (2 * (k + 1)) (u8s (T ++ [y1, y2])) := by rw [show u8s (T ++ [y1, y2]) = u8s T ++ u8s [y1, y2] by simp [u8s]]; exact hown1
        have hb2 : Below w.heap.size w w1 := ((HB.out.alloc (by omega) _).drew).grown hg1 (by show _ ≤ Array.size (Array.push _ _); simp; omega) (fun j hj => (World.ownsRow.lt HO.out j hj).1)
        rw [← HS.out] at hown2
        have HO2 := Lib.hid hown2
        have HB2 := Lib.hid hb2
        clear hown1 hown2 hb2 hg1 HS HL HO HB i1 i2 e1 e2 e3 e4 e5 hcell hx
        go_wp2
        go_roundw
        case rel => exact ⟨k + 1, by omega, by go_num, HO2.out, HB2.out⟩
        case measure => simp [intOf]; omega
    · obtain rfl : k = len := by omega
      rw [List.take_of_length_le (by omega)] at hown
      have ht := own_text hown (by rw [hexL_len]; omega)
      go_wp2
      go_ret
      exact ⟨rfl, hb⟩
end Go.Proofs.YtpipjkpjpkgmpaaDoor
