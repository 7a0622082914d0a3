import Derived.Test.YtaookoejdnkkoaaGreatDoorQHv
import Derived.Test.YtaookoejdnkkoaaGreatDoorQ02
import Derived.Test.YtaookoejdnkkoaaGreatDoorCards
import Derived.Test.YtaookoejdnkkoaaGreatDoorTie
import Derived.ChangeMaps5
import Derived.Deep.DeepHandedRow
import Derived.Deep.RegionWith
import Derived.LaidOnce
import Derived.Laws.ComplexArith
import Derived.Laws.Entries
import Derived.Laws.StructEq
import Derived.Lay
import Derived.Lib.AppendStr
import Derived.OpenShut
import Derived.Outline
import Derived.ProofKit
import Derived.ScopeJumps
import Derived.SevenTiedAt
import Derived.Shelf.Spec.TrailingZeros
import Derived.WalkMore
import Derived.Test.YtaookoejdnkkoaaGreatDoorQBo
import Derived.BigRegion
import Derived.Deep.MidRow
import Derived.Deep.RegionLaw
import Derived.Deep.WholeRow
import Derived.Laws.BitsAllLaws
import Derived.Laws.ResultCell
import Derived.Lib.OthersKept
import Derived.OrdersHeld
import Derived.StillTail
namespace Go.Proofs.YtaookoejdnkkoaaGreatDoor
open Go.RowKit

theorem B8.tail {x : Nat} {xs : List Nat} (h : B8 (x :: xs)) : B8 xs := fun y hy => h y (List.mem_cons_of_mem _ hy)
theorem B8.head {x : Nat} {xs : List Nat} (h : B8 (x :: xs)) : x < 256 := h x (List.mem_cons_self ..)
theorem B8.append {xs ys : List Nat} (h : B8 xs) (k : B8 ys) : B8 (xs ++ ys) := fun y hy => by
  rcases List.mem_append.1 hy with h1 | h1
  · exact h y h1
  · exact k y h1

/-- The letters of hex, and hex. -/
def hexD (d : Nat) : Nat := if d < 10 then 48 + d else 87 + d
def hexL : List Nat → List Nat
  | [] => []
  | b :: t => hexD (b / 16) :: hexD (b % 16) :: hexL t
def low (c : Nat) : Nat := if 65 ≤ c ∧ c ≤ 70 then c + 32 else c
theorem hexL_len (b : List Nat) : (hexL b).length = 2 * b.length := by
  induction b with
  | nil => rfl
  | cons x t ih => simp [hexL, ih]; omega
theorem hexL_app (a b : List Nat) : hexL (a ++ b) = hexL a ++ hexL b := by
  induction a with
  | nil => rfl
  | cons x t ih => simp [hexL, ih]
theorem hexL_snoc (a : List Nat) (x : Nat) : hexL (a ++ [x]) = hexL a ++ [hexD (x / 16), hexD (x % 16)] := by rw [hexL_app]; rfl
theorem hexD_inj {c d : Nat} (hc : c < 16) (hd : d < 16) (h : hexD c = hexD d) : c = d := by
  unfold hexD at h; split at h <;> split at h <;> omega
theorem hexL_inj : ∀ (a b : List Nat), B8 a → B8 b → hexL a = hexL b → a = b
  | [], [], _, _, _ => rfl
  | [], _ :: _, _, _, h => by simp [hexL] at h
  | _ :: _, [], _, _, h => by simp [hexL] at h
  | x :: a, y :: b, ha, hb, h => by
    simp only [hexL, List.cons.injEq] at h
    obtain ⟨h1, h2, h3⟩ := h
    have hx := ha.head
    have hy := hb.head
    have e1 := hexD_inj (by omega) (by omega) h1
    have e2 := hexD_inj (by omega) (by omega) h2
    have e : x = y := by omega
    rw [e, hexL_inj a b ha.tail hb.tail h3]
theorem hexD_lt {d : Nat} (h : d < 16) : hexD d < 128 := by unfold hexD; split <;> omega
theorem hexL_lt {b : List Nat} (h : B8 b) : ∀ c ∈ hexL b, c < 128 := by
  induction b with
  | nil => intro c hc; cases hc
  | cons x t ih =>
    intro c hc
    have hx := h.head
    simp only [hexL, List.mem_cons] at hc
    rcases hc with rfl | rfl | hc
    · exact hexD_lt (by omega)
    · exact hexD_lt (by omega)
    · exact ih h.tail c hc
theorem low_of_lt {c : Nat} (h : low c < 128) : c < 128 := by unfold low at h; split at h <;> omega

/-- What a text as hex tells: the bytes, or that there are none such. -/
def UnhexTells (l : List Nat) (k : Int) (b : List Nat) : Prop :=
  (k = 0 ∧ B8 b ∧ hexL b = l.map low) ∨ (k = 60 ∧ b = [] ∧ ∀ c, B8 c → hexL c ≠ l.map low)
theorem UnhexTells.one {l : List Nat} {k k' : Int} {b b' : List Nat} (h : UnhexTells l k b) (g : UnhexTells l k' b') : k = k' ∧ b = b' := by
  rcases h with ⟨rfl, h1, h2⟩ | ⟨rfl, rfl, h2⟩ <;> rcases g with ⟨rfl, g1, g2⟩ | ⟨rfl, rfl, g2⟩
  · exact ⟨rfl, hexL_inj _ _ h1 g1 (h2.trans g2.symm)⟩
  · exact absurd h2 (g2 _ h1)
  · exact absurd g2 (h2 _ g1)
  · exact ⟨rfl, rfl⟩

/-- The letters of base64, and base64. -/
def b64D (d : Nat) : Nat := if d < 26 then 65 + d else if d < 52 then 71 + d else if d < 62 then d - 4 else if d = 62 then 43 else 47
def b64L : List Nat → List Nat
  | [] => []
  | [a] => [b64D (a / 4), b64D (a % 4 * 16), 61, 61]
  | [a, b] => [b64D (a / 4), b64D (a % 4 * 16 + b / 16), b64D (b % 16 * 4), 61]
  | a :: b :: c :: t => b64D (a / 4) :: b64D (a % 4 * 16 + b / 16) :: b64D (b % 16 * 4 + c / 64) :: b64D (c % 64) :: b64L t
theorem b64L_len : ∀ b : List Nat, (b64L b).length = (b.length + 2) / 3 * 4
  | [] => rfl
  | [_] => by simp [b64L]
  | [_, _] => by simp [b64L]
  | _ :: _ :: _ :: t => by simp only [b64L, List.length_cons, b64L_len t]; omega
theorem b64L_app : ∀ (a b : List Nat), a.length % 3 = 0 → b64L (a ++ b) = b64L a ++ b64L b
  | [], _, _ => rfl
  | [_], _, h => by simp at h
  | [_, _], _, h => by simp at h
  | x :: y :: z :: t, b, h => by
    simp only [List.cons_append, b64L]
    rw [b64L_app t b (by simp at h; omega)]
theorem b64D_inj {c d : Nat} (hc : c < 64) (hd : d < 64) (h : b64D c = b64D d) : c = d := by
  unfold b64D at h; repeat' split at h
  all_goals omega
theorem b64D_lt {d : Nat} (h : d < 64) : b64D d < 128 ∧ b64D d ≠ 61 := by
  unfold b64D
  repeat' split
  all_goals omega
theorem b64L_inj : ∀ (a b : List Nat), B8 a → B8 b → b64L a = b64L b → a = b := by
  intro a
  induction h : a.length using Nat.strongRecOn generalizing a with
  | ind n ih =>
  intro b ha hb he
  match a, b, h with
  | [], [], _ => rfl
  | [], [_], _ => simp [b64L] at he
  | [], [_, _], _ => simp [b64L] at he
  | [], _ :: _ :: _ :: _, _ => simp [b64L] at he
  | [_], [], _ => simp [b64L] at he
  | [_, _], [], _ => simp [b64L] at he
  | _ :: _ :: _ :: _, [], _ => simp [b64L] at he
  | [x], [y], _ =>
    simp only [b64L, List.cons.injEq] at he
    have hx := ha.head; have hy := hb.head
    have e1 := b64D_inj (by omega) (by omega) he.1
    have e2 := b64D_inj (by omega) (by omega) he.2.1
    rw [show x = y by omega]
  | [x], [y, y2], _ =>
    simp only [b64L, List.cons.injEq] at he
    have hx := ha.head; have hy := hb.head; have hy2 := hb.tail.head
    exact absurd he.2.2.1.symm (b64D_lt (by omega)).2
  | [x], y :: y2 :: y3 :: t, _ =>
    simp only [b64L, List.cons.injEq] at he
    have hx := ha.head; have hy := hb.head; have hy2 := hb.tail.head; have hy3 := hb.tail.tail.head
    exact absurd he.2.2.1.symm (b64D_lt (by omega)).2
  | [x, x2], [y], _ =>
    simp only [b64L, List.cons.injEq] at he
    have hx := ha.head; have hy := hb.head; have hx2 := ha.tail.head
    exact absurd he.2.2.1 (b64D_lt (by omega)).2
  | [x, x2], [y, y2], _ =>
    simp only [b64L, List.cons.injEq] at he
    have hx := ha.head; have hy := hb.head; have hx2 := ha.tail.head; have hy2 := hb.tail.head
    have e1 := b64D_inj (by omega) (by omega) he.1
    have e2 := b64D_inj (by omega) (by omega) he.2.1
    have e3 := b64D_inj (by omega) (by omega) he.2.2.1
    rw [show x = y by omega, show x2 = y2 by omega]
  | [x, x2], y :: y2 :: y3 :: t, _ =>
    simp only [b64L, List.cons.injEq] at he
    have hy3 := hb.tail.tail.head
    exact absurd he.2.2.2.1.symm (b64D_lt (by omega)).2
  | x :: x2 :: x3 :: s, [y], _ =>
    simp only [b64L, List.cons.injEq] at he
    have hx3 := ha.tail.tail.head; have hx2 := ha.tail.head
    exact absurd he.2.2.1 (b64D_lt (by omega)).2
  | x :: x2 :: x3 :: s, [y, y2], _ =>
    simp only [b64L, List.cons.injEq] at he
    have hx3 := ha.tail.tail.head
    exact absurd he.2.2.2.1 (b64D_lt (by omega)).2
  | x :: x2 :: x3 :: s, y :: y2 :: y3 :: t, h =>
    simp only [b64L, List.cons.injEq] at he
    have hx := ha.head; have hx2 := ha.tail.head; have hx3 := ha.tail.tail.head
    have hy := hb.head; have hy2 := hb.tail.head; have hy3 := hb.tail.tail.head
    have e1 := b64D_inj (by omega) (by omega) he.1
    have e2 := b64D_inj (by omega) (by omega) he.2.1
    have e3 := b64D_inj (by omega) (by omega) he.2.2.1
    have e4 := b64D_inj (by omega) (by omega) he.2.2.2.1
    have e5 := ih s.length (by simp at h; omega) s rfl t ha.tail.tail.tail hb.tail.tail.tail he.2.2.2.2
    rw [e5, show x = y by omega, show x2 = y2 by omega, show x3 = y3 by omega]
/-- What a text as base64 tells. -/
def Un64Tells (l : List Nat) (k : Int) (b : List Nat) : Prop :=
  (k = 0 ∧ B8 b ∧ b64L b = l) ∨ (k = 61 ∧ b = [] ∧ ∀ c, B8 c → b64L c ≠ l)
theorem Un64Tells.one {l : List Nat} {k k' : Int} {b b' : List Nat} (h : Un64Tells l k b) (g : Un64Tells l k' b') : k = k' ∧ b = b' := by
  rcases h with ⟨rfl, h1, h2⟩ | ⟨rfl, rfl, h2⟩ <;> rcases g with ⟨rfl, g1, g2⟩ | ⟨rfl, rfl, g2⟩
  · exact ⟨rfl, b64L_inj _ _ h1 g1 (h2.trans g2.symm)⟩
  · exact absurd h2 (g2 _ h1)
  · exact absurd g2 (h2 _ g1)
  · exact ⟨rfl, rfl⟩

/-- A text of bytes that are numbers. -/
def strN (l : List Nat) : ByteArray := ⟨(l.map UInt8.ofNat).toArray⟩
theorem strN_size (l : List Nat) : (strN l).size = l.length := by
  show ((l.map UInt8.ofNat).toArray).size = _
  simp
/-- The numbers of a text. -/
def bsN (s : ByteArray) : List Nat := s.data.toList.map UInt8.toNat
theorem bsN_len (s : ByteArray) : (bsN s).length = s.size := by
  show _ = s.data.size
  simp [bsN]
theorem bsN_8 (s : ByteArray) : B8 (bsN s) := fun x hx => by
  obtain ⟨c, _, rfl⟩ := List.mem_map.1 hx
  exact c.toNat_lt
theorem bsN_strN {l : List Nat} (h : B8 l) : bsN (strN l) = l := by
  unfold bsN strN
  rw [List.map_map]
  refine (List.map_congr_left fun x hx => ?_).trans (List.map_id l)
  have := h x hx
  show (UInt8.ofNat x).toNat = x
  rw [UInt8.toNat_ofNat', Nat.mod_eq_of_lt this]
theorem strN_bsN (s : ByteArray) : strN (bsN s) = s := by
  obtain ⟨⟨l⟩⟩ := s
  unfold strN bsN
  rw [List.map_map]
  have e : l.map (UInt8.ofNat ∘ UInt8.toNat) = l := (List.map_congr_left fun c _ => (by show UInt8.ofNat c.toNat = c; exact UInt8.ofNat_toNat)).trans (List.map_id l)
  rw [e]
/-- A new row of bytes, empty yet. -/
theorem wpl_room8 {w : World} {ops : Array Oper} {rest : List Oper} {o : Oper} {a : Act} {Q : Exit → Act → World → Prop} (hg : o.guard = none) (l c : Operand) (hop : o.op = Op.makeSlice 40 l c)
    (B : Nat) (kl kc : IntKind) (C : Int) (n : Nat) (hl : a.eval l = .int kl 0) (hc : a.eval c = .int kc C) (hC : C = (n : Int)) (hn : n ≤ 4398046511104) (hB : B ≤ w.heap.size)
    (hK : ∀ w', w'.ownsRow B 5 1 (.slice (some ⟨w.heap.size, 0, none⟩) 0 n) 0 [] → Below B w w' → w.heap.size < w'.heap.size → wpList Tryz.prog ops Q rest (a.put o.dst (.slice (some ⟨w.heap.size, 0, none⟩) 0 n)) w') :
    wpList Tryz.prog ops Q (o :: rest) a w := by
  obtain ⟨i, hi, hz, hsz, hb⟩ := info_parts info8
  refine wpList_plain hg fun K hK' => ?_
  obtain ⟨w', hr, hown, hgr⟩ := run_make_own (P := Tryz.prog) w B 40 5 i (.int .u8 0) 1 Tryz.underlying40 hi hz hsz kl kc n (by rw [hb]; omega) (by simp only [maxLen]; omega) hB
  subst hC
  unfold Oper.wp execOp
  simp only [hop, Sem.run_bind, Sem.run_pure, Result.andThen_ok, hl, hc, hr]
  exact hK' _ _ (hK w' hown ((Below.refl _ _).grown hgr hB (fun k hk => by cases hk)) (World.ownsRow.lt hown _ rfl).2)
/-- A row of bytes as a text. -/
theorem own_text {w : World} {B n : Nat} {v : Value} {zs : List Nat} (h : w.ownsRow B 5 1 v n (u8s zs)) (hn : zs.length = n) :
    ∀ dst, Tryz.prog.underlying dst = some .string → (convert 40 dst v).run Tryz.prog w = .ok (.string (strN zs)) w := by
  intro dst hd
  rcases h.2 with ⟨rfl, h0⟩ | ⟨g, c1, cur, rfl, _, _, _, _, _, _⟩
  · have e : zs = [] := List.eq_nil_of_length_eq_zero (by omega)
    subst e
    exact run_convert_bytes_nil (P := Tryz.prog) w 40 5 Tryz.underlying40 Tryz.underlying5 0 0 dst hd
  · have := run_convert_bytes_arg (P := Tryz.prog) w 40 5 Tryz.underlying40 Tryz.underlying5 g 0 n c1 (zs.map fun (x : Nat) => (x : Int)) (by simp [hn]) (fun i hi => by
      rw [Nat.zero_add, World.ownsRow.cellAt h i (by omega), u8s_at zs i (by omega)]
      simp [at0_getElem, hn, hi, List.getD]) dst hd
    rw [this]
    simp [strOfNums, strN, Function.comp_def]

/-- Elements behind a row, as a step of a region that draws. -/
theorem step_appN (T E : TypeId) (hT : Tryz.prog.underlying T = some (.slice E)) {z : Value} {bytes : Nat} (hI : (Tryz.prog.info? E).map (fun i => (i.zero, i.size, i.bytes)) = some (some z, 1, bytes)) (hzs : z.cells.size = 1) (hby : bytes ≤ 32)
    {w : World} {ops : Array Oper} {o : Oper} {a : Act} {Q : Exit → Act → World → Prop} {K : Act → World → Prop} {F : Prop} (hgd : o.guard = none) (s x : Operand)
    (ho : o.op = .call { callee := .builtin .append, args := #[s, x], argTypes := #[T, T] })
    (B : Nat) (v : Value) (n : Nat) (xs : List Value) (hs : a.eval s = v) (hown : w.ownsRow B E 1 v n xs) (ad : Option Addr) (m c : Nat) (hx : a.eval x = .slice ad m c) (news : List Value) (hl : news.length = m)
    (hc : 0 < m → ∃ p, ad = some p ∧ ∀ (j : Nat) u, news[j]? = some u → w.cell? (p.add j) = some u) (h0 : m = 0 → ad = none → c = 0) (h1 : ∀ u ∈ news, u.oneCell' = true) (hn : n + m ≤ 4398046511104) (hB : B ≤ w.heap.size)
    (h : ∀ v' w', w'.ownsRow B E 1 v' (n + m) (xs ++ news) → w.grownBy w' v.ownBlock → Hid (∀ k, v'.ownBlock = some k → v.ownBlock = some k ∨ k = w.heap.size) → Hid (v.ownBlock = none → n + m = 0 → v' = .slice none 0 0) →
      K (a.put o.dst v') w') :
    if Region.wanted o (yielded ops a.tmps) = true then Oper.wp Tryz.prog o a w K Q else F := by
  have hw : Region.wanted o (yielded ops a.tmps) = true := by simp [Region.wanted, hgd]
  rw [if_pos hw]
  obtain ⟨v', w', hr, hown', hg, hor, hnil⟩ := run_appN (P := Tryz.prog) T o.type E hT hI hzs hby B v n xs hown ad m c news hl hc h0 h1 hn hB
  unfold Oper.wp execOp
  simp only [ho, resolve, invoke, builtin, Sem.run_bind, Sem.run_pure, Result.andThen_ok, List.map_toArray, List.map_cons, List.map_nil, hs, hx, hr]
  exact h v' w' hown' hg hor hnil

/-- Two new bytes in a literal. -/
theorem news2 (w : World) (T : TypeId) (x y : Nat) : 0 < 2 → ∃ p, some (⟨w.heap.size, 0, none⟩ : Addr) = some p ∧ ∀ (j : Nat) u, (u8s [x, y])[j]? = some u → (w.alloc (.cells #[.int .u8 (x : Nat), .int .u8 (y : Nat)] T)).cell? (p.add j) = some u := by
  refine fun _ => ⟨_, rfl, fun j u hj => ?_⟩
  have e2 : (⟨w.heap.size, 0, none⟩ : Addr).add j = ⟨w.heap.size, j, none⟩ := by unfold Addr.add; split <;> simp_all
  rw [e2, World.cell?_alloc_at _ _ _ _ rfl]
  simpa [u8s] using hj

def hexLit : ByteArray := ⟨#[48, 49, 50, 51, 52, 53, 54, 55, 56, 57, 97, 98, 99, 100, 101, 102]⟩
set_option maxRecDepth 10000 in
theorem hexLit_at (d : Nat) (h : d < 16) : (hexLit[d]'h).toNat = hexD d := by
  have : ∀ d : Fin 16, (hexLit[d.val]'d.isLt).toNat = hexD d.val := by decide
  exact this ⟨d, h⟩
set_option maxRecDepth 10000 in
theorem and15 (x : Nat) (h : x < 256) : bits BinOp.and IntKind.u8 (x : Int) 15 = ((x % 16 : Nat) : Int) := by
  have : ∀ x : Fin 256, bits BinOp.and IntKind.u8 (x.val : Int) 15 = ((x.val % 16 : Nat) : Int) := by decide
  exact this ⟨x, h⟩
theorem hexL_take (xs : List Nat) (k : Nat) (h : k < xs.length) {x : Nat} (hx : xs.getD k 0 = x) : hexL (xs.take (k + 1)) = hexL (xs.take k) ++ [hexD (x / 16), hexD (x % 16)] := by
  rw [take_succ_at0 h, hexL_snoc, ← hx]; rfl
theorem idx_hex {P : Program} (T : TypeId) (hT : P.underlying T = some .string) (k : IntKind) (d : Nat) (h : d < 16) (W : World) : (Instr.index T (.string ⟨#[48, 49, 50, 51, 52, 53, 54, 55, 56, 57, 97, 98, 99, 100, 101, 102]⟩) (.int k (d : Int))).run P W = .ok (.int .u8 (hexD d : Nat)) W := by
  rw [show (⟨#[48, 49, 50, 51, 52, 53, 54, 55, 56, 57, 97, 98, 99, 100, 101, 102]⟩ : ByteArray) = hexLit from rfl, run_index_string _ _ _ _ _ hT, dif_pos ⟨by omega, by show (d : Int) < 16; omega⟩]
  rw [← hexLit_at d h]
  rfl

set_option maxHeartbeats 800000 in
set_option maxRecDepth 100000 in
theorem hex_any (a : Option Addr) (len cap : Nat) (xs : List Nat) (w : World) (hl : xs.length = len) (hbig : len ≤ 1099511627776) (hr : Rd .u8 w a xs) (h8 : B8 xs) :
    Calls Tryz.prog 88 #[.slice a len cap] w fun e w' => e = .returned (.string (strN (hexL xs))) ∧ Below w.heap.size w w' := by
  go_enter Tryz.func88, Tryz.ntmps88
  go_wp2_with (at_make; refine wpl_room8 rfl _ _ rfl w.heap.size _ _ _ (2 * len) rfl rfl (by omega) (by omega) (Nat.le_refl _) ?_; intro w1 hown0 hb0 hlt0)
  have hown0 := Lib.hid hown0
  have hb0 := Lib.hid hb0
  go_loopw [3, 12] (fun v i wr => ∃ k : Nat, k ≤ len ∧ i = .int .i64 (k : Nat) ∧ wr.ownsRow w.heap.size 5 1 v (2 * k) (u8s (hexL (xs.take k))) ∧ Below w.heap.size w wr) (fun _ i _ => len - (intOf i).toNat)
  case atStart => exact ⟨0, Nat.zero_le _, rfl, hown0.out, hb0.out⟩
  case round =>
    obtain ⟨k, hk, rfl, hown, hb⟩ := hrel
    by_cases hlt : k < len
    · obtain ⟨b, off, rfl, hc⟩ := hr.get (by omega)
      have hcell : wr.cell? ⟨b, off + k, none⟩ = some (.int .u8 (xs.getD k 0 : Nat)) := below_cell hb _ _ (hc k (by omega))
      clear hc hr
      generalize hx0 : xs.getD k 0 = x at hcell
      have hx := Lib.hid hx0
      clear hx0
      have HB := Lib.hid hb
      have HO := Lib.hid hown
      clear hb hown hown0 hb0
      have h8x : x < 256 := by rw [← hx.out]; exact (by simp [List.getD, hl, hlt]; exact h8 _ (List.getElem_mem _))
      obtain ⟨d1, hd1⟩ : ∃ d, d = x / 16 := ⟨_, rfl⟩
      obtain ⟨d2, hd2⟩ : ∃ d, d = x % 16 := ⟨_, rfl⟩
      have e1 : (x : Int) / 16 = (d1 : Int) := by omega
      have e2 : bits BinOp.and IntKind.u8 (x : Int) 15 = (d2 : Int) := by rw [hd2]; exact and15 x h8x
      have i1 : ∀ W, (Instr.index 9 (.string ⟨#[48, 49, 50, 51, 52, 53, 54, 55, 56, 57, 97, 98, 99, 100, 101, 102]⟩) (.int .u8 (d1 : Int))).run Tryz.prog W = .ok (.int .u8 (hexD d1 : Nat)) W := idx_hex 9 Tryz.underlying9 .u8 d1 (by omega)
      have i2 : ∀ W, (Instr.index 9 (.string ⟨#[48, 49, 50, 51, 52, 53, 54, 55, 56, 57, 97, 98, 99, 100, 101, 102]⟩) (.int .u8 (d2 : Int))).run Tryz.prog W = .ok (.int .u8 (hexD d2 : Nat)) W := idx_hex 9 Tryz.underlying9 .u8 d2 (by omega)
      have HD1 := Lib.hid hd1
      have HD2 := Lib.hid hd2
      clear hd1 hd2
      obtain ⟨y1, hy1⟩ : ∃ y, y = hexD d1 := ⟨_, rfl⟩
      obtain ⟨y2, hy2⟩ : ∃ y, y = hexD d2 := ⟨_, rfl⟩
      rw [← hy1] at i1
      rw [← hy2] at i2
      have HS : Hid (hexL (xs.take (k + 1)) = hexL (xs.take k) ++ [y1, y2]) := by
        show _ = _
        rw [hexL_take xs k (by omega) hx.out, hy1, hy2, HD1.out, HD2.out]
      have HL : Hid ((hexL (xs.take k)).length = 2 * k) := by show _ = _; rw [hexL_len]; simp; omega
      clear hy1 hy2
      generalize hexL (xs.take k) = T at *
      have hB := HB.out.size
      go_wp2_with fail
      go_region_law ((refine step_appN 40 5 Tryz.underlying40 info8 rfl (by decide) rfl (.tmp 16) (.tmp 23) rfl w.heap.size u3 (2 * k) (u8s T) rfl (World.ownsRow.alloc (w := wr.drew) HO.out _) (some ⟨wr.heap.size, 0, none⟩) 2 2 rfl (u8s [y1, y2]) rfl (news2 wr.drew _ y1 y2) (fun h => by cases h) (u8s_one8 _) (by omega) (by simp; omega) ?_; intro v1 w1 hown1 hg1 _ _))
      all_goals
        have hown2 : w1.ownsRow w.heap.size 5 1 v1 (2 * (k + 1)) (u8s (T ++ [y1, y2])) := by rw [show u8s (T ++ [y1, y2]) = u8s T ++ u8s [y1, y2] by simp [u8s]]; exact hown1
        have hb2 : Below w.heap.size w w1 := ((HB.out.alloc (by omega) _).drew).grown hg1 (by show _ ≤ Array.size (Array.push _ _); simp; omega) (fun j hj => (World.ownsRow.lt HO.out j hj).1)
        rw [← HS.out] at hown2
        have HO2 := Lib.hid hown2
        have HB2 := Lib.hid hb2
        clear hown1 hown2 hb2 hg1 HS HL HO HB i1 i2 e1 e2 hcell hx
        go_wp2
        go_roundw
        case rel => exact ⟨k + 1, by omega, by go_num, HO2.out, HB2.out⟩
        case measure => simp [intOf]; omega
    · obtain rfl : k = len := by omega
      rw [List.take_of_length_le (by omega)] at hown
      have ht := own_text hown (by rw [hexL_len]; omega)
      go_wp2
      go_ret
      exact ⟨rfl, hb⟩

set_option maxHeartbeats 800000 in
set_option maxRecDepth 100000 in
theorem rhex_any (a : Option Addr) (len cap : Nat) (xs : List Nat) (w : World) (hl : xs.length = len) (hbig : len ≤ 1099511627776) (hr : Rd .u8 w a xs) (h8 : B8 xs) :
    Calls Tryz.prog 45 #[.slice a len cap] w fun e w' => e = .returned (.string (strN (hexL xs))) ∧ Below w.heap.size w w' := by
  go_enter Tryz.func45, Tryz.ntmps45
  go_wp2_with fail
  go_loopw [3, 4] (fun v i wr => ∃ k : Nat, k ≤ len ∧ i = .int .i64 (k : Nat) ∧ wr.ownsRow w.heap.size 5 1 v (2 * k) (u8s (hexL (xs.take k))) ∧ Below w.heap.size w wr) (fun _ i _ => len - (intOf i).toNat)
  case atStart => exact ⟨0, Nat.zero_le _, rfl, World.ownsRow_nil _ _ _ _, Below.refl _ _⟩
  case round =>
    obtain ⟨k, hk, rfl, hown, hb⟩ := hrel
    by_cases hlt : k < len
    · obtain ⟨b, off, rfl, hc⟩ := hr.get (by omega)
      have hcell : wr.cell? ⟨b, off + k, none⟩ = some (.int .u8 (xs.getD k 0 : Nat)) := below_cell hb _ _ (hc k (by omega))
      clear hc hr
      generalize hx0 : xs.getD k 0 = x at hcell
      have hx := Lib.hid hx0
      clear hx0
      have HB := Lib.hid hb
      have HO := Lib.hid hown
      clear hb hown
      have h8x : x < 256 := by rw [← hx.out]; exact (by simp [List.getD, hl, hlt]; exact h8 _ (List.getElem_mem _))
      obtain ⟨d1, hd1⟩ : ∃ d, d = x / 16 := ⟨_, rfl⟩
      obtain ⟨d2, hd2⟩ : ∃ d, d = x % 16 := ⟨_, rfl⟩
      have e1 : (x : Int) / 16 = (d1 : Int) := by omega
      have e2 : (x : Int) % 16 = (d2 : Int) := by omega
      have e5 : (x : Int).tmod 16 = (d2 : Int) := by rw [Int.tmod_eq_emod_of_nonneg (by omega)]; exact e2
      have e3 : IntKind.u8.wrap (d1 : Int) = (d1 : Int) := (wrap_u8_in d1 (by omega))
      have e4 : IntKind.u8.wrap (d2 : Int) = (d2 : Int) := (wrap_u8_in d2 (by omega))
      have i1 : ∀ W, (Instr.index 9 (.string ⟨#[48, 49, 50, 51, 52, 53, 54, 55, 56, 57, 97, 98, 99, 100, 101, 102]⟩) (.int .u8 (d1 : Int))).run Tryz.prog W = .ok (.int .u8 (hexD d1 : Nat)) W := idx_hex 9 Tryz.underlying9 .u8 d1 (by omega)
      have i2 : ∀ W, (Instr.index 9 (.string ⟨#[48, 49, 50, 51, 52, 53, 54, 55, 56, 57, 97, 98, 99, 100, 101, 102]⟩) (.int .u8 (d2 : Int))).run Tryz.prog W = .ok (.int .u8 (hexD d2 : Nat)) W := idx_hex 9 Tryz.underlying9 .u8 d2 (by omega)
      have HD1 := Lib.hid hd1
      have HD2 := Lib.hid hd2
      clear hd1 hd2
      obtain ⟨y1, hy1⟩ : ∃ y, y = hexD d1 := ⟨_, rfl⟩
      obtain ⟨y2, hy2⟩ : ∃ y, y = hexD d2 := ⟨_, rfl⟩
      rw [← hy1] at i1
      rw [← hy2] at i2
      have HS : Hid (hexL (xs.take (k + 1)) = hexL (xs.take k) ++ [y1, y2]) := by
        show _ = _
        rw [hexL_take xs k (by omega) hx.out, hy1, hy2, HD1.out, HD2.out]
      have HL : Hid ((hexL (xs.take k)).length = 2 * k) := by show _ = _; rw [hexL_len]; simp; omega
      clear hy1 hy2
      generalize hexL (xs.take k) = T at *
      have hB := HB.out.size
      go_wp2_with fail
      go_region_law ((refine step_appN 40 5 Tryz.underlying40 info8 rfl (by decide) rfl (.tmp 11) (.tmp 24) rfl w.heap.size u3 (2 * k) (u8s T) rfl (World.ownsRow.alloc (w := wr.drew) HO.out _) (some ⟨wr.heap.size, 0, none⟩) 2 2 rfl (u8s [y1, y2]) rfl (news2 wr.drew _ y1 y2) (fun h => by cases h) (u8s_one8 _) (by omega) (by simp; omega) ?_; intro v1 w1 hown1 hg1 _ _))
      all_goals
        have hown2 : w1.ownsRow w.heap.size 5 1 v1 (2 * (k + 1)) (u8s (T ++ [y1, y2])) := by rw [show u8s (T ++ [y1, y2]) = u8s T ++ u8s [y1, y2] by simp [u8s]]; exact hown1
        have hb2 : Below w.heap.size w w1 := ((HB.out.alloc (by omega) _).drew).grown hg1 (by show _ ≤ Array.size (Array.push _ _); simp; omega) (fun j hj => (World.ownsRow.lt HO.out j hj).1)
        rw [← HS.out] at hown2
        have HO2 := Lib.hid hown2
        have HB2 := Lib.hid hb2
        clear hown1 hown2 hb2 hg1 HS HL HO HB i1 i2 e1 e2 e3 e4 e5 hcell hx
        go_wp2
        go_roundw
        case rel => exact ⟨k + 1, by omega, by go_num, HO2.out, HB2.out⟩
        case measure => simp [intOf]; omega
    · obtain rfl : k = len := by omega
      rw [List.take_of_length_le (by omega)] at hown
      have ht := own_text hown (by rw [hexL_len]; omega)
      go_wp2
      go_ret
      exact ⟨rfl, hb⟩

theorem hexL_8 {b : List Nat} (h : B8 b) : B8 (hexL b) := fun x hx => Nat.lt_trans (hexL_lt h x hx) (by decide)

/-! What rsa tells, as numbers. -/
/-- How many bits a number has. -/
def bitsN (n : Nat) : Nat := if n = 0 then 0 else n.log2 + 1
theorem bits_is (n : Nat) : BitsIs n (bitsN n) := by
  unfold bitsN
  split
  · exact .inl ⟨by assumption, rfl⟩
  · exact .inr ⟨by omega, by rw [Nat.add_sub_cancel]; exact Nat.log2_self_le (by assumption), Nat.lt_log2_self⟩
theorem BitsIs.eq {n k : Nat} (h : BitsIs n k) : k = bitsN n := bits_unique h (bits_is n)
/-- How many bytes. -/
def szN (n : Nat) : Nat := (bitsN n + 7) / 8
/-- May it be a key? -/
def KeyOk (N E : Nat) : Prop := 368 ≤ bitsN N ∧ bitsN N ≤ 4096 ∧ N % 2 = 1 ∧ E % 2 = 1 ∧ 3 ≤ E ∧ E < N
instance (N E : Nat) : Decidable (KeyOk N E) := by unfold KeyOk; infer_instance
set_option exponentiation.threshold 5000 in
theorem KeyOk.lim {N E : Nat} (h : KeyOk N E) : N < 18446744073709551616 ^ 64 := by
  have h1 := bits_lt (bits_is N)
  rw [pow_64]
  exact Nat.lt_of_lt_of_le h1 (Nat.pow_le_pow_right (by decide) h.2.1)
theorem KeyOk.pos {N E : Nat} (h : KeyOk N E) : 0 < N := by have := h.2.2.2.2; omega
theorem KeyOk.size {N E : Nat} (h : KeyOk N E) : 46 ≤ szN N ∧ szN N ≤ 512 := by
  have h1 := h.1
  have h2 := h.2.1
  unfold szN
  omega
/-- Is it a signature's number? -/
def SigOk (N : Nat) (s : List Nat) : Prop := s.length = szN N ∧ bval s < N
instance (N : Nat) (s : List Nat) : Decidable (SigOk N s) := by unfold SigOk; infer_instance
theorem B8.app {a b : List Nat} (ha : B8 a) (hb : B8 b) : B8 (a ++ b) := fun x hx => by
  rcases List.mem_append.1 hx with h | h
  · exact ha x h
  · exact hb x h

theorem Sep.swap {w : World} {B : Nat} {r s : Rw} {R : List Rw} (h : Sep w B (r :: s :: R)) : Sep w B (s :: r :: R) := by
  obtain ⟨h1, h2⟩ := h
  have p1 := List.pairwise_cons.1 h2
  have p2 := List.pairwise_cons.1 p1.2
  refine ⟨fun x hx => h1 x (by simp only [List.mem_cons] at hx ⊢; rcases hx with h | h | h <;> simp [h]), List.pairwise_cons.2 ⟨fun x hx k hk hk' => ?_, List.pairwise_cons.2 ⟨fun x hx => p1.1 x (List.mem_cons_of_mem _ hx), p2.2⟩⟩⟩
  rcases List.mem_cons.1 hx with rfl | hx
  · exact p1.1 s List.mem_cons_self k hk' hk
  · exact p2.1 x hx k hk hk'
theorem Bok.bytes {w : World} {B bk T : Nat} {WV BV : List Value} {R : List Rw} {vw vb : Value} (h : Bok w B bk T WV BV R vw vb) (va : Option Addr) (vn vc : Nat) (hn : BV.length + 1 ≤ 1099511627776) :
    Calls Tryz.prog 23 #[.pointer (some ⟨bk, 0, none⟩), .slice va vn vc] w fun e w' => e = .returned (.tuple #[]) ∧ (∃ vb', Bok w' B bk T WV (BV ++ [.slice va vn vc]) R vw vb') ∧ Below bk w w' := by
  have hlt := h.lt
  have hbs := h.base
  have hsw := h.sep.swap
  refine (bookBytes_any bk B BV.length vw vb BV va vn vc w T h.book hsw.head (fun hk => by have := h.offb _ hk; omega) hn (by omega)).mono ?_
  rintro e w' ⟨rfl, g, cap, hbk, hown, hc, hg⟩
  have hbg : bk < g := by
    rcases hg with hg | hg
    · exact h.offb _ hg
    · omega
  refine ⟨rfl, ⟨_, hbk, Sep.swap ?_, h.off, h.offw, (fun k hk => ?_), hbs⟩, hc.below (Nat.le_of_lt hlt) fun k hk => ?_⟩
  · refine hsw.upd2 (r' := ⟨.slice (some ⟨g, 0, none⟩) (BV.length + 1) cap, 40, (BV ++ [Value.slice va vn vc]).length, BV ++ [Value.slice va vn vc]⟩) hc (fun s hs hk => ?_) (by simpa using hown) fun k hk => ?_
    · rcases List.mem_cons.1 hs with rfl | hs
      · have := h.offw _ hk; omega
      · exact h.off s hs hk
    · have : g = k := by simpa [Value.ownBlock] using hk
      subst this
      exact hg
  · have : g = k := by simpa [Value.ownBlock] using hk
    omega
  · rcases hk with rfl | hk
    · exact Nat.le_refl _
    · exact Nat.le_of_lt (h.offb k hk.symm)
theorem bytes_same (a b : Option Addr) (n ca cb : Nat) (xs : List Nat) (w : World) (hla : xs.length = n) (hba : n ≤ 1099511627776) 
    (hra : Rd .u8 w a xs) (hrb : Rd .u8 w b xs) :
    Calls Tryz.prog 22 #[.slice a n ca, .slice b n cb] w (YesPost w) := by
  go_enter Tryz.func22, Tryz.ntmps22
  have hne : ((n : Int) != (n : Int)) = false := by simp
  go_wp2
  go_loopw [5] (fun v wr => ∃ i n' : Nat, i ≤ n ∧ v = .int .i64 (i : Nat) ∧ wr = w.drewN n') (fun v _ => n - (intOf v).toNat)
  case atStart => exact ⟨0, 0, Nat.zero_le _, rfl, rfl⟩
  case round =>
    obtain ⟨i, n', hi, rfl, rfl⟩ := hrel
    by_cases h0 : i < n
    · obtain ⟨ba, oa, rfl⟩ := hra.isAt (by omega)
      obtain ⟨bb, ob, rfl⟩ := hrb.isAt (by omega)
      have hc1 := hra.cell (i := i) (by omega)
      have hc2 := hrb.cell (i := i) (by omega)
      have h00 : (0 : Int) ≤ (i : Int) := by omega
      clear hra hrb
      generalize at0 xs i = x at *
      have hxx : ((x : Int) != (x : Int)) = false := by simp
      go_wp2
      go_quiet (fail)
      go_wp2
      go_roundw
      case rel => exact ⟨i + 1, n' + nq, by omega, by go_num, by first | rfl | exact World.drewN_drewN _ _ _⟩
      case measure => simp [intOf]; omega
    · have hq : decide (i < n) = false := by simp; omega
      go_wp2
      go_ret
      exact ⟨rfl, n', rfl⟩
theorem own8_rd2 {w : World} {B : Nat} {a : Option Addr} {n c : Nat} {zs : List Nat} (h : own8 w B (.slice a n c) zs) : Rd .u8 w a zs := by
  rcases h.2 with ⟨hv, h0⟩ | ⟨g, c1, cur, hv, _, _, _, _, _, _⟩
  · intro j hj; omega
  · simp only [Value.slice.injEq] at hv
    obtain ⟨rfl, rfl, rfl⟩ := hv
    intro j hj
    refine ⟨g, 0, rfl, fun i hi => ?_⟩
    have h2 := World.ownsRow.cellAt h i (by omega)
    rw [Nat.zero_add, h2, u8s_at zs i hi]
    rfl
end Go.Proofs.YtaookoejdnkkoaaGreatDoor
