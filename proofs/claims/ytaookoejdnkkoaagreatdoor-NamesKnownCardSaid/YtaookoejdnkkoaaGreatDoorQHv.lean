import Derived.Test.YtaookoejdnkkoaaGreatDoorQ01
namespace Go.Proofs.YtaookoejdnkkoaaGreatDoor
open Go.RowKit

/-- A number's bytes: the greatest one first, and it is not 0. -/
structure BNum (l : List Nat) (n : Nat) : Prop where
  b8 : B8 l
  cn : 0 < l.length → at0 l 0 ≠ 0
  vl : bval l = n
theorem BNum.nil : BNum [] 0 := ⟨(fun x hx => by cases hx), fun h => by simp at h, rfl⟩
theorem B8.snoc {l : List Nat} {c : Nat} (h : B8 l) (hc : c < 256) : B8 (l ++ [c]) := fun x hx => by
  rcases List.mem_append.1 hx with hx | hx
  · exact h x hx
  · obtain rfl : x = c := by simpa using hx
    exact hc
theorem BNum.snoc {l : List Nat} {n c : Nat} (h : BNum l n) (hc : c < 256) (h0 : c ≠ 0 ∨ 0 < l.length) : BNum (l ++ [c]) (256 * n + c) := by
  refine ⟨h.b8.snoc hc, fun _ => ?_, by rw [bval_snoc, h.vl]⟩
  rcases Nat.eq_zero_or_pos l.length with hl | hl
  · have : l = [] := List.eq_nil_of_length_eq_zero hl
    subst this
    rcases h0 with h0 | h0
    · exact h0
    · simp at h0
  · have := h.cn hl
    rw [at0_append_left hl]
    exact this
theorem snoc_ind {p : List Nat → Prop} (h0 : p []) (hs : ∀ l c, p l → p (l ++ [c])) (l : List Nat) : p l := by
  have : ∀ r : List Nat, p r.reverse := by
    intro r
    induction r with
    | nil => exact h0
    | cons c r ih => rw [List.reverse_cons]; exact hs _ _ ih
  have h := this l.reverse
  rwa [List.reverse_reverse] at h
theorem BNum.zero {l : List Nat} (h : BNum l 0) : l = [] := by
  rcases List.eq_nil_or_concat l with rfl | ⟨m, c, rfl⟩
  · rfl
  · exfalso
    have h1 := h.vl
    rw [List.concat_eq_append, bval_snoc] at h1
    have hcn := h.cn (by simp)
    have key : ∀ (m : List Nat) (c : Nat), 256 * bval m + c = 0 → at0 (m ++ [c]) 0 = 0 := by
      refine snoc_ind ?_ ?_
      · intro c hc; simp [at0]; omega
      · intro m d ih c hc
        have h2 : bval (m ++ [d]) = 0 := by omega
        rw [bval_snoc] at h2
        rw [at0_append_left (by simp)]
        exact ih d h2
    rw [List.concat_eq_append] at hcn
    exact hcn (key m c h1)
theorem BNum.unique : ∀ (k : Nat) {l l' : List Nat} {n : Nat}, l.length ≤ k → BNum l n → BNum l' n → l = l' := by
  intro k
  induction k with
  | zero =>
    intro l l' n hk h h'
    have : l = [] := List.eq_nil_of_length_eq_zero (by omega)
    subst this
    have h0 : n = 0 := h.vl.symm
    subst h0
    exact h'.zero.symm
  | succ k ih =>
    intro l l' n hk h h'
    rcases List.eq_nil_or_concat l with rfl | ⟨m, c, rfl⟩
    · have h0 : n = 0 := h.vl.symm
      subst h0
      exact h'.zero.symm
    · rcases List.eq_nil_or_concat l' with rfl | ⟨m', c', rfl⟩
      · have h0 : n = 0 := h'.vl.symm
        subst h0
        exact h.zero
      · rw [List.concat_eq_append] at h h' hk ⊢
        rw [List.concat_eq_append]
        have a1 := h.vl
        have a2 := h'.vl
        rw [bval_snoc] at a1 a2
        have c1 : c < 256 := h.b8 c (by simp)
        have c2 : c' < 256 := h'.b8 c' (by simp)
        have e1 : c = c' := by omega
        have e2 : bval m = bval m' := by omega
        subst e1
        have p1 : BNum m (bval m) := ⟨fun x hx => h.b8 x (by simp [hx]), fun hl => by have := h.cn (by simp); rw [at0_append_left hl] at this; exact this, rfl⟩
        have p2 : BNum m' (bval m) := ⟨fun x hx => h'.b8 x (by simp [hx]), fun hl => by have := h'.cn (by simp); rw [at0_append_left hl] at this; exact this, e2.symm⟩
        rw [ih (by simp at hk; omega) p1 p2]
theorem bval_digits {V L : Nat} : ∀ (bs : List Nat), bs.length ≤ L → (∀ i, i < bs.length → at0 bs i = V / 256 ^ (L - 1 - i) % 256) → bval bs = V / 256 ^ (L - bs.length) % 256 ^ bs.length := by
  refine snoc_ind ?_ ?_
  · intro _ _; simp [bval, Nat.mod_one]
  · intro m d ih hl h
    simp at hl
    have h1 := h m.length (by simp)
    have h2 : at0 (m ++ [d]) m.length = d := by
      have := at0_append_right (xs := m) (ys := [d]) 0
      rw [Nat.add_zero] at this
      rw [this]; rfl
    rw [h2] at h1
    have h3 := ih (by omega) (fun i hi => by have := h i (by simp; omega); rw [at0_append_left hi] at this; exact this)
    rw [bval_snoc, h3, h1, List.length_append, List.length_singleton, show L - 1 - m.length = L - (m.length + 1) by omega]
    have e : 256 ^ (L - m.length) = 256 ^ (L - (m.length + 1)) * 256 := by rw [← Nat.pow_succ]; congr 1; omega
    rw [e, ← Nat.div_div_eq_div_mul]
    generalize V / 256 ^ (L - (m.length + 1)) = U
    rw [Nat.pow_succ, Nat.mul_comm (256 ^ m.length) 256, Nat.mod_mul]
    omega

theorem wpl_make8 {w : World} {ops : Array Oper} {rest : List Oper} {o : Oper} {a : Act} {Q : Exit → Act → World → Prop} (hg : o.guard = none) (l c : Operand) (hop : o.op = Op.makeSlice 40 l c)
    (B : Nat) (kl kc : IntKind) (L C : Int) (n : Nat) (hl : a.eval l = .int kl L) (hc : a.eval c = .int kc C) (hL : L = (n : Int)) (hC : C = (n : Int)) (hn : n ≤ 4398046511104) (hB : B ≤ w.heap.size)
    (hK : ∀ w', w'.ownsRow B 5 1 (.slice (some ⟨w.heap.size, 0, none⟩) n n) n (u8s (List.replicate n 0)) → Below B w w' → w.heap.size < w'.heap.size → wpList Tryz.prog ops Q rest (a.put o.dst (.slice (some ⟨w.heap.size, 0, none⟩) n n)) w') :
    wpList Tryz.prog ops Q (o :: rest) a w := by
  obtain ⟨i, hi, hz, hsz, hb⟩ := info_parts info8
  refine wpList_make_full w hg l c 40 hop B 5 i (.int .u8 0) 1 Tryz.underlying40 hi hz hsz kl kc L C n hl hc hL hC (by rw [hb]; omega) (by simp only [maxLen]; omega) hB ?_
  intro w' hown hgr
  refine hK w' ?_ ((Below.refl _ _).grown hgr hB (fun k hk => by cases hk)) ((World.ownsRow.lt hown _ rfl).2)
  have e : (madeCells (Value.int .u8 0).cells (n * 1)).toList = u8s (List.replicate n 0) := by
    rw [Nat.mul_one, show (Value.int .u8 0).cells = #[.int .u8 0] from rfl, toList_madeCells_one, u8s, List.map_replicate]
    rfl
  rw [e] at hown
  exact hown

/-- What Bytes tells. -/
def BytesTells (xs : List Nat) (k : Int) (l : List Nat) : Prop := (128 < fl xs ∧ k = 3 ∧ l = []) ∨ (fl xs ≤ 128 ∧ k = 0 ∧ BNum l (val xs))
theorem BytesTells.one {xs : List Nat} {k k' : Int} {l l' : List Nat} (h : BytesTells xs k l) (h' : BytesTells xs k' l') : k = k' ∧ l = l' := by
  rcases h with ⟨h1, rfl, rfl⟩ | ⟨h1, rfl, h3⟩ <;> rcases h' with ⟨g1, rfl, rfl⟩ | ⟨g1, rfl, g3⟩ <;>
  first | exact ⟨rfl, rfl⟩ | (exfalso; omega) | exact ⟨rfl, BNum.unique _ (Nat.le_refl _) h3 g3⟩
def Told8 (Q : Int → List Nat → Prop) (w : World) (e : Ending) (w' : World) : Prop :=
  Below w.heap.size w w' ∧ ∃ a c k zs, e = .returned (.tuple #[.slice a zs.length c, .int .i64 k]) ∧ own8 w' w.heap.size (.slice a zs.length c) zs ∧ zs.length ≤ 1024 ∧ Q k zs
theorem byte_of_word (x t : Nat) : IntKind.u8.wrap ((x / 2 ^ t : Nat) : Int) = ((x / 2 ^ t % 256 : Nat) : Int) := by
  rw [show IntKind.u8.wrap ((x / 2 ^ t : Nat) : Int) = ((x / 2 ^ t : Nat) : Int) % 256 from by simp [IntKind.wrap, IntKind.signed, IntKind.bits]]
  omega
theorem byte_at {xs : List Nat} {p : Nat} (bx : Bd xs) (h : p / 8 < xs.length) : val xs / 256 ^ p % 256 = at0 xs (p / 8) / 2 ^ (p % 8 * 8) % 256 := by
  have h1 := val_at xs (p / 8) h
  have h2 := val_lt (bx.take (p / 8))
  rw [List.length_take, Nat.min_eq_left (by omega)] at h2
  have e : (256 : Nat) ^ p = 18446744073709551616 ^ (p / 8) * 2 ^ (p % 8 * 8) := by
    rw [pow_64, ← Nat.pow_add, show (256 : Nat) = 2 ^ 8 from rfl, ← Nat.pow_mul]; congr 1; omega
  rw [e, ← Nat.div_div_eq_div_mul]
  have h3 : val xs / 18446744073709551616 ^ (p / 8) = at0 xs (p / 8) + 18446744073709551616 * val (xs.drop (p / 8 + 1)) := by
    rw [h1, Nat.add_comm, Nat.mul_add_div (Nat.pow_pos (by decide)), Nat.div_eq_of_lt h2, Nat.add_zero]
  rw [h3]
  generalize val (xs.drop (p / 8 + 1)) = U
  generalize at0 xs (p / 8) = x
  have ht : p % 8 * 8 ≤ 56 := by omega
  generalize p % 8 * 8 = t at *
  have e2 : 18446744073709551616 * U = 2 ^ t * (2 ^ (56 - t) * (256 * U)) := by
    rw [← Nat.mul_assoc, ← Nat.pow_add, show t + (56 - t) = 56 by omega, ← Nat.mul_assoc]
  rw [e2, Nat.add_comm, Nat.mul_add_div (Nat.two_pow_pos _), Nat.mul_left_comm, Nat.mul_add_mod]

set_option exponentiation.threshold 10000 in
set_option maxHeartbeats 1000000 in
set_option maxRecDepth 100000 in
theorem bytes_any (a : Option Addr) (la ca : Nat) (xs : List Nat) (w : World) (hla : xs.length = la) (hba : la ≤ 1048576) (hca : la ≤ ca)
    (hra : Rd .u64 w a xs) (bx : Bd xs) :
    Calls Tryz.prog 162 #[.slice a la ca] w (Told8 (BytesTells xs) w) := by
  go_enter Tryz.func162, Tryz.ntmps162
  go_wp2_with fail
  refine (one_any a la ca xs _ hla (by omega) hca hra).mono ?_
  rintro e w1 ⟨hor, rfl⟩
  rcases hor with ⟨h1, a', c', rfl, g1, g2⟩ | ⟨h1, rfl⟩
  · have fa : FormOf a ca (fl xs) a' c' := ⟨g1, g2⟩
    have hfa := (fl_spec xs).1
    have hra' := fa.rd hra hfa
    have hca' := (fa.cap hca (by omega)).1
    have V1 : Hid (val (xs.take (fl xs)) = val xs) := fm_val xs
    have e1 : Hid ((xs.take (fl xs)).length = fl xs) := fm_length xs
    have F1 : Hid (fl (xs.take (fl xs)) = fl xs) := by show fl (fm xs) = fl xs; rw [fl_of_cn (fm_cn xs), fm_length]
    have BX := bx.take (fl xs)
    clear fa g1 g2 hra
    go_wp2_with fail
    refine (bits_any a' (fl xs) c' (xs.take (fl xs)) _ e1.out (by omega) hca' hra' BX).mono ?_
    rintro e w2 ⟨⟨kb, rfl, hkb, hkb2⟩, rfl⟩
    rw [F1.out] at hkb2
    obtain ⟨L, hL⟩ : ∃ L, L = (kb + 7) / 8 := ⟨_, rfl⟩
    have rL : ((kb : Int) + 7).tdiv 8 = (L : Int) := by rw [Int.tdiv_eq_ediv_of_nonneg (by omega)]; omega
    have hL2 : L ≤ 8 * fl xs := by omega
    have HKB := Lib.hid hkb
    have HL := Lib.hid hL
    clear hkb hL
    go_wp2_with (at_make; refine wpl_make8 rfl _ _ rfl w.heap.size _ _ _ _ L rfl rfl rfl rfl (by omega) (Nat.le_refl _) ?_)
    intro w3 hown hbl hsz
    have HO := Lib.hid hown
    clear hown
    go_wp2
    go_loopw [23] (fun iv wr => ∃ (i : Nat) (bs : List Nat), i ≤ L ∧ iv = .int .i64 (i : Nat) ∧ Hid (bs.length = L) ∧ Hid (wr.ownsRow w.heap.size 5 1 (.slice (some ⟨w.heap.size, 0, none⟩) L L) L (u8s bs)) ∧ Hid (B8 bs) ∧ Hid (∀ q, q < i → at0 bs q = val xs / 256 ^ (L - 1 - q) % 256) ∧ Hid (Below w.heap.size w wr)) (fun iv _ => L - (intOf iv).toNat)
    case atStart => exact ⟨0, _, Nat.zero_le _, rfl, by show _ = _; simp, HO, (fun x hx => by rw [List.eq_of_mem_replicate hx]; decide), (fun q hq => by omega), hbl⟩
    case round =>
      clear HO hbl
      obtain ⟨i, bs, hi, rfl, HBL, HO, H8, HD, hbl⟩ := hrel
      by_cases hlt : i < L
      · obtain ⟨p, hp⟩ : ∃ p, p = L - 1 - i := ⟨_, rfl⟩
        have rp : (L : Int) - 1 - (i : Int) = (p : Int) := by omega
        obtain ⟨q8, hq8⟩ : ∃ q8, q8 = p / 8 := ⟨_, rfl⟩
        obtain ⟨r8, hr8⟩ : ∃ r8, r8 = p % 8 := ⟨_, rfl⟩
        have rd8 : (p : Int).tdiv 8 = (q8 : Int) := by rw [Int.tdiv_eq_ediv_of_nonneg (by omega)]; omega
        have rm8 : (p : Int).tmod 8 = (r8 : Int) := by rw [Int.tmod_eq_emod_of_nonneg (by omega)]; omega
        obtain ⟨t, ht⟩ : ∃ t, t = r8 * 8 := ⟨_, rfl⟩
        have rt : (r8 : Int) * 8 = (t : Int) := by omega
        have hq8l : q8 < fl xs := by omega
        have ht64 : t ≤ 56 := by omega
        obtain ⟨b, off, rfl⟩ := hra'.isAt (by rw [e1.out]; omega)
        have hc1 := below_cell hbl.out _ _ (hra'.cell (i := q8) (by rw [e1.out]; exact hq8l))
        have hD := byte_at (xs := xs.take (fl xs)) (p := p) BX (by rw [e1.out, ← hq8]; exact hq8l)
        rw [← hq8, ← hr8, ← ht, V1.out] at hD
        obtain ⟨x, hx⟩ : ∃ x, x = at0 (xs.take (fl xs)) q8 := ⟨_, rfl⟩
        rw [← hx] at hc1 hD
        obtain ⟨z, hz⟩ : ∃ z, z = x / 2 ^ t % 256 := ⟨_, rfl⟩
        have hx64 := BX.at0 q8
        rw [← hx] at hx64
        have ew : IntKind.u8.wrap ((x : Int) / 2 ^ t) = (z : Int) := by
          have := byte_of_word x t
          rw [← hz] at this
          rw [← this]; simp
        rw [← hz] at hD
        have hz8 : z < 256 := by omega
        have hf1 := World.ownsRow.frozenAt HO.out i
        have hc3 := World.ownsRow.cellAt HO.out i (by omega)
        rw [u8s_at _ _ (by rw [HBL.out]; exact hlt)] at hc3
        have HP := Lib.hid hp
        have HDD := Lib.hid hD
        have hin : i < L := hlt
        clear hp hq8 hr8 ht hx hz hD
        go_wp2
        go_roundw
        case rel =>
          refine ⟨i + 1, bs.set i z, by omega, by go_num, by show _ = _; rw [List.length_set, HBL.out], own8.set HO.out i z, ?_, ?_, hbl.out.setCell (p := ⟨w.heap.size, i, none⟩) (Nat.le_refl _) _⟩
          · intro y hy
            rcases List.mem_or_eq_of_mem_set hy with hy | rfl
            · exact H8.out y hy
            · exact hz8
          · intro q hq
            rw [at0_set (by rw [HBL.out]; exact hin)]
            by_cases e : i = q
            · subst e; rw [if_pos rfl, ← HP.out]; exact HDD.out.symm
            · rw [if_neg e]; exact HD.out q (by omega)
        case measure => simp [intOf]; omega
      · obtain rfl : i = L := by omega
        have hq : decide (i < i) = false := by simp
        have hbv := bval_digits (V := val xs) (L := i) bs (by rw [HBL.out]; exact Nat.le_refl _) (fun q hq => HD.out q (by rw [HBL.out] at hq; exact hq))
        rw [HBL.out, Nat.sub_self, Nat.pow_zero, Nat.div_one] at hbv
        have hk := HKB.out
        rw [V1.out] at hk
        have hnum : Hid (BNum bs (val xs)) := by
          have h256 : (256 : Nat) ^ i = 2 ^ (8 * i) := by rw [Nat.pow_mul]
          have hlt2 : val xs < 256 ^ i := by
            rw [h256]
            rcases hk with ⟨hz, _⟩ | ⟨_, _, h2⟩
            · rw [hz]; exact Nat.two_pow_pos _
            · exact Nat.lt_of_lt_of_le h2 (Nat.pow_le_pow_right (by decide) (by have := HL.out; omega))
          refine ⟨H8.out, fun hpos => ?_, by rw [hbv, Nat.mod_eq_of_lt hlt2]⟩
          rw [HBL.out] at hpos
          rw [HD.out 0 hpos, Nat.sub_zero]
          rcases hk with ⟨hz, hk0⟩ | ⟨h0, h1, _⟩
          · have := HL.out; omega
          · have h3 : 256 ^ (i - 1) ≤ val xs := by
              refine Nat.le_trans ?_ h1
              rw [show (256 : Nat) = 2 ^ 8 from rfl, ← Nat.pow_mul]
              exact Nat.pow_le_pow_right (by decide) (by have := HL.out; omega)
            have h4 : val xs / 256 ^ (i - 1) < 256 := by
              rw [Nat.div_lt_iff_lt_mul (Nat.pow_pos (by decide)), Nat.mul_comm, ← Nat.pow_succ, show (i - 1).succ = i by omega]
              exact hlt2
            have h5 : 0 < val xs / 256 ^ (i - 1) := Nat.div_pos h3 (Nat.pow_pos (by decide))
            rw [Nat.mod_eq_of_lt h4]; omega
        clear hbv hk
        go_wp2
        go_ret2
        have hl := HBL.out
        have ho := HO.out
        refine ⟨hbl.out, some ⟨w.heap.size, 0, none⟩, i, 0, bs, by rw [hl]; rfl, by show World.ownsRow _ _ _ _ _ _ _; rw [hl]; exact ho, by omega, .inr ⟨h1, rfl, hnum.out⟩⟩
  · go_wp2
    go_ret2
    exact ⟨Below.refl _ _, none, 0, 3, [], rfl, World.ownsRow_nil _ _ _ _, by decide, .inl ⟨h1, rfl, rfl⟩⟩

theorem own64_pre {w : World} {B : Nat} {a : Option Addr} {n c k : Nat} {zs : List Nat} (h : own64 w B (.slice a n c) zs) (hk : k ≤ zs.length) : own64 w B (.slice a k c) (zs.take k) := by
  have hn := (own64.rd h).1
  rcases h.2 with ⟨hv, h0⟩ | ⟨g, c1, cur, hv, hb, hg, hnc, hm, hs, ht⟩
  · cases hv
    obtain rfl : k = 0 := by omega
    rw [List.take_zero]
    exact own64_nil w B
  · cases hv
    obtain ⟨g2, cur2, e1, e2, e3, e4, e5, e6, e7, e8⟩ := own64.blk h
    cases e1
    have h1 : (zs.take k).length = k := by rw [List.length_take]; omega
    have := own64_of_blk (B := B) (zs := zs.take k) (c := c) e4 e3 (by omega) e6 e7 ⟨by rw [h1]; have := e8.1; omega, fun i hi => by rw [h1] at hi; rw [at0_take hi]; exact e8.2 i (by omega)⟩
    rw [h1] at this
    exact this
theorem pair_v32 {hs xs : List Nat} {k x : Nat} (hz : hs.length = 2 * k) (hv : v32 hs = val (xs.take k)) (hk : k < xs.length) (hx : at0 xs k = x) : v32 (hs ++ [x % 4294967296] ++ [x / 4294967296]) = val (xs.take (k + 1)) := by
  rw [v32_snoc, v32_snoc, take_val_snoc hk, hx, hv, List.length_append, List.length_singleton, hz, Nat.pow_succ, pow_pair, Nat.mul_assoc, Nat.add_assoc, ← Nat.mul_add]
  congr 2
  omega

set_option maxHeartbeats 1000000 in
set_option maxRecDepth 100000 in
theorem halves_any (a : Option Addr) (len cap : Nat) (xs : List Nat) (w : World) (hl : xs.length = len) (hbig : len ≤ 1048576) (hr : Rd .u64 w a xs) (bx : Bd xs) :
    Calls Tryz.prog 150 #[.slice a len cap] w fun e w' => ∃ v hs, e = .returned v ∧ own64 w' w.heap.size v hs ∧ Num32 hs (val xs) ∧ Below w.heap.size w w' := by
  go_enter Tryz.func150, Tryz.ntmps150
  go_wp2
  go_loopw [3, 4] (fun v i wr => ∃ (k : Nat) (hs : List Nat), k ≤ len ∧ i = .int .i64 (k : Nat) ∧ Hid (own64 wr w.heap.size v hs) ∧ Hid (hs.length = 2 * k) ∧ Hid (Hd hs) ∧ Hid (v32 hs = val (xs.take k)) ∧ Hid (Below w.heap.size w wr)) (fun _ i _ => len - (intOf i).toNat)
  case atStart => exact ⟨0, [], by omega, rfl, own64_nil _ _, rfl, Hd.nil, by show _ = _; simp [val, v32], Below.refl _ _⟩
  case round =>
    obtain ⟨k, hs, hk, rfl, HO, HZ, HB, HV, hbl⟩ := hrel
    have hsz := hbl.out.size
    by_cases hlt : k < len
    · obtain ⟨b, off, rfl⟩ := hr.isAt (by omega)
      have hc1 := below_cell hbl.out _ _ (hr.cell (i := k) (by omega))
      have hx64 := bx.at0 k
      have hown := HO.out.row HZ.out
      obtain ⟨x, hx⟩ : ∃ x, at0 xs k = x := ⟨_, rfl⟩
      rw [hx] at hc1 hx64
      have e1 := and_low x hx64
      obtain ⟨lo, hlo⟩ : ∃ lo, lo = x % 4294967296 := ⟨_, rfl⟩
      rw [← hlo] at e1
      obtain ⟨hi, hhi⟩ : ∃ hi, hi = x / 4294967296 := ⟨_, rfl⟩
      have e2 : (x : Int) / 4294967296 = (hi : Int) := by omega
      have HX := Lib.hid hx
      have HLO := Lib.hid hlo
      have HHI := Lib.hid hhi
      clear hx hlo hhi
      go_wp2_with (at_builtin; refine wpl_app 23 47 Tryz.underlying23 info64 rfl (by decide) rfl _ _ rfl w.heap.size _ (2 * k) (u64s hs) rfl (hown.alloc _) wr.heap.size _ rfl (World.cell?_alloc_at _ _ _ _ rfl) rfl (by omega) (by simp; omega) ?_)
      intro g cap' w1 hown1 hg1 hBg hgl hgo
      have hbl1 : Below w.heap.size w w1 := (hbl.out.alloc (by omega) _).grown hg1 (by simp; omega) (fun j hj => (hown.lt j hj).1)
      have hO1 := own64_snoc (z := lo) hown1 HZ.out rfl
      have HL1 : Hid ((hs ++ [lo]).length = 2 * k + 1) := by show _ = _; rw [List.length_append, HZ.out]; rfl
      have hown1 := hO1.row HL1.out
      have hsz1 := hbl1.size
      have HBL1 := Lib.hid hbl1
      have hc2 := below_cell hbl1 _ _ (hr.cell (i := k) (by omega))
      rw [HX.out] at hc2
      clear hO1 hg1 hgo hown hbl1
      go_wp2_with (at_builtin; refine wpl_app 23 47 Tryz.underlying23 info64 rfl (by decide) rfl _ _ rfl w.heap.size _ (2 * k + 1) (u64s (hs ++ [lo])) rfl (hown1.alloc _) w1.heap.size _ rfl (World.cell?_alloc_at _ _ _ _ rfl) rfl (by omega) (by simp; omega) ?_)
      intro g2 cap2 w2 hown2 hg2 hBg2 hgl2 hgo2
      have hbl2 : Below w.heap.size w w2 := (HBL1.out.alloc (by omega) _).grown hg2 (by simp; omega) (fun j hj => (hown1.lt j hj).1)
      have hO2 := own64_snoc (z := hi) hown2 HL1.out rfl
      have HO2 := Lib.hid hO2
      have HBL2 := Lib.hid hbl2
      clear hO2 hown2 hg2 hgo2 hown1 hbl2
      go_wp2
      go_roundw
      case rel =>
        refine ⟨k + 1, hs ++ [lo] ++ [hi], by omega, by go_num, HO2.out, by show _ = _; simp [HZ.out]; omega, (HB.out.snoc (by have := HLO.out; omega)).snoc (by have := HHI.out; omega), ?_, HBL2.out⟩
        rw [HLO.out, HHI.out]
        exact pair_v32 HZ.out HV.out (by omega) HX.out
      case measure => simp [intOf]; omega
    · obtain rfl : k = len := by omega
      have hq : decide (k < k) = false := by simp
      obtain ⟨a', c', rfl, hrd⟩ := own64.form HO.out
      obtain ⟨hroom, hnone⟩ := own64.room HO.out
      have HN := Lib.hid hnone
      have hnum := num32_fm HB.out
      have HV2 : Hid (v32 hs = val xs) := by
        show _ = _
        rw [HV.out, List.take_of_length_le (by omega)]
      rw [HV2.out] at hnum
      have hl2 : hs.length ≤ 2097152 := by rw [HZ.out]; omega
      clear hnone
      go_wp2_with fail
      refine (strip_any a' hs.length c' hs _ rfl (by omega) hroom HN.out hrd).mono ?_
      rintro e w' ⟨rfl, rfl⟩
      go_wp2
      go_ret
      exact ⟨_, fm hs, rfl, own64_pre HO.out (fl_spec hs).1, hnum, hbl.out⟩

theorem rform_any (a : Option Addr) (len cap : Nat) (xs : List Nat) (w : World) (hl : xs.length = len) (hbig : len ≤ 1048576) (hr : Rd .u64 w a xs) (bx : Bd xs) :
    Calls Tryz.prog 95 #[.slice a len cap] w fun e w' => ∃ v zs, e = .returned v ∧ own64 w' w.heap.size v zs ∧ Num zs (val xs) ∧ Below w.heap.size w w' := by
  go_enter Tryz.func95, Tryz.ntmps95
  go_wp2_with fail
  refine (halves_any a len cap xs _ hl hbig hr bx).mono ?_
  rintro e w1 ⟨v, hs, rfl, hown, hnum, hb1⟩
  obtain ⟨a1, c1, rfl, hr1⟩ := own64.form hown
  have HN := Lib.hid hnum
  have hl1 : hs.length ≤ 1099511627776 := by
    have h1 := hnum.len_le (k := 2 * len)
    have h2 := val_lt bx
    rw [hl, ← pow_pair] at h2
    have := h1.2 h2
    omega
  clear hown hnum
  go_wp2_with fail
  refine (limbs_any a1 hs.length c1 hs _ rfl hl1 hr1 HN.out.bd).mono ?_
  rintro e w2 ⟨v, zs, rfl, hown, hnum, hb2⟩
  rw [HN.out.vl] at hnum
  have HN2 := Lib.hid hnum
  have HO2 := Lib.hid hown
  clear hnum hown
  go_wp2
  go_ret
  have h1 := hb1.size
  exact ⟨_, zs, rfl, owns_base HO2.out h1, HN2.out, hb1.trans (hb2.mono h1)⟩
theorem rfits_any (a : Option Addr) (len cap : Nat) (xs : List Nat) (w : World) (hl : xs.length = len) (hbig : len ≤ 1048576) (hr : Rd .u64 w a xs) (bx : Bd xs) :
    Calls Tryz.prog 171 #[.slice a len cap] w fun e w' => e = .returned (.bool (decide (fl xs ≤ 128))) ∧ Below w.heap.size w w' := by
  go_enter Tryz.func171, Tryz.ntmps171
  go_wp2_with fail
  refine (rform_any a len cap xs _ hl hbig hr bx).mono ?_
  rintro e w1 ⟨v, zs, rfl, hown, hnum, hb1⟩
  obtain ⟨a1, c1, rfl, hr1⟩ := own64.form hown
  have e1 : zs = fm xs := Num.unique hnum (num_fm bx)
  have e2 : zs.length = fl xs := by rw [e1, fm_length]
  rw [e2]
  clear hown hnum hr1 e1 e2
  go_wp2
  go_ret
  refine ⟨?_, hb1⟩
  have e : decide ((fl xs : Int) ≤ 128) = decide (fl xs ≤ 128) := by simp only [decide_eq_decide]; omega
  rw [← e]; rfl
end Go.Proofs.YtaookoejdnkkoaaGreatDoor
