import Derived.Test.YtaookoejdnkkoaaGreatDoorKRq
import Derived.Test.YtaookoejdnkkoaaGreatDoorKRn
namespace Go.Proofs.YtaookoejdnkkoaaGreatDoor
open Go.RowKit

def i8s (l : List Int) : List Value := l.map (.int .u8)
theorem part8 (cs : Array Value) (i : Nat) (v : Value) (hv : cs[i]? = some v) (w : World) : (part 5 cs i).run Tryz.prog w = .ok v w := by
  have hu8 := run_underlying (P := Tryz.prog) Tryz.underlying5
  simp [part, isAgg, hu8, hv, Sem.run_bind, Result.andThen]
theorem size8 (w : World) : (sizeOf 5).run Tryz.prog w = .ok 1 w := by
  obtain ⟨i, hi, _, hs, _⟩ := info_parts info8
  simp [sizeOf, typeInfo, hi, hs]
set_option maxRecDepth 100000 in
theorem equal20 (d : Nat) (xs ys : List Int) (hx : xs.length = 20) (hy : ys.length = 20) (w : World) : (Op.equalIn (d + 2) 50 (.agg (i8s xs).toArray) (.agg (i8s ys).toArray)).run Tryz.prog w = .ok (decide (xs = ys)) w := by
  have hu := run_underlying (P := Tryz.prog) Tryz.underlying50
  have hu8 : Tryz.prog.underlying 5 = some (.int .u8) := Tryz.underlying5
  have key : ∀ (is : List Nat), (∀ i ∈ is, i < 20) → ∀ w, Sem.run Tryz.prog (forIn is ((none, ()) : Option Bool × Unit) fun i (_ : Option Bool × Unit) => do
      let a ← part 5 (i8s xs).toArray (i * 1)
      let b ← part 5 (i8s ys).toArray (i * 1)
      let c ← Op.equalIn (d + 1) 5 a b
      if (!c) = true then pure (ForInStep.done (some false, ())) else pure (ForInStep.yield (none, ()))) w = .ok (if ∀ i ∈ is, xs.getD i 0 = ys.getD i 0 then (none, ()) else (some false, ())) w := by
    intro is
    induction is with
    | nil => intro _ w; simp
    | cons i is ih =>
      intro hi w
      have h20 := hi i List.mem_cons_self
      have px := part8 (i8s xs).toArray i (.int .u8 (xs.getD i 0)) (by simp [i8s, List.getD, show i < xs.length by omega])
      have py := part8 (i8s ys).toArray i (.int .u8 (ys.getD i 0)) (by simp [i8s, List.getD, show i < ys.length by omega])
      rw [List.forIn_cons]
      simp only [Sem.run_bind, Nat.mul_one, px, py, Result.andThen_ok, run_equalIn_int _ d _ .u8 .u8 _ _ hu8, Sem.run_ite]
      by_cases e : xs.getD i 0 = ys.getD i 0
      · have e2 : (!(xs.getD i 0 == ys.getD i 0)) = false := by rw [e, beq_self_eq_true]; rfl
        rw [if_neg (by rw [e2]; decide)]
        simp only [Sem.run_pure, Result.andThen_ok]
        have := ih (fun j hj => hi j (List.mem_cons_of_mem _ hj)) w
        simp only [Nat.mul_one] at this
        rw [this]
        congr 1
        by_cases h : ∀ j ∈ is, xs.getD j 0 = ys.getD j 0
        · rw [if_pos h, if_pos (by intro j hj; rcases List.mem_cons.1 hj with rfl | hj; exact e; exact h j hj)]
        · rw [if_neg h, if_neg (fun h' => h fun j hj => h' j (List.mem_cons_of_mem _ hj))]
      · rw [if_pos (by rw [Bool.not_eq_true', beq_eq_false_iff_ne]; exact e)]
        simp only [Sem.run_pure, Result.andThen_ok]
        rw [if_neg (fun h' => e (h' i List.mem_cons_self))]
  rw [Op.equalIn]
  simp only [Sem.run_bind, hu, Result.andThen_ok, size8]
  rw [Std.Legacy.Range.forIn_eq_forIn_range', key _ (by intro i hi; simp at hi; omega)]
  simp only [Result.andThen_ok]
  by_cases h : xs = ys
  · subst h; simp
  · rw [if_neg]
    · simp [h]
    · intro h'
      apply h
      apply List.ext_getElem (by omega)
      intro i h1 h2
      have := h' i (by simp; omega)
      simpa [List.getD, h1, h2] using this
theorem eql20 (xs ys : List Int) (hx : xs.length = 20) (hy : ys.length = 20) (w : World) : (binOp .eql 50 (.agg (i8s xs).toArray) (.agg (i8s ys).toArray)).run Tryz.prog w = .ok (.bool (decide (xs = ys))) w := by
  rw [run_eql_struct, equal20 9998 xs ys hx hy]; rfl
/-! RsaForms. -/
theorem load20 {W : World} {g : Nat} {d : List Nat} (h : CB W 50 g (u8s d)) (hd : d.length = 20) : (loadVar 50 ⟨g, 0, none⟩).run Tryz.prog W = .ok (.agg (u8s d).toArray) W :=
  run_loadVar_row W g _ _ _ (0, 0) _ h Tryz.underlying50 rfl (by rw [(zero_of_info info20).2]; simp [u8s, hd])
theorem u8s_i8s (d : List Nat) : u8s d = i8s (d.map fun (x : Nat) => (x : Int)) := by simp [u8s, i8s]
theorem eqld (a b : List Nat) (ha : a.length = 20) (hb : b.length = 20) (W : World) : (binOp .eql 50 (.agg (u8s a).toArray) (.agg (u8s b).toArray)).run Tryz.prog W = .ok (.bool (decide (a = b))) W := by
  rw [u8s_i8s, u8s_i8s, eql20 _ _ (by simpa using ha) (by simpa using hb)]
  congr 2
  have : (a.map fun (x : Nat) => (x : Int)) = (b.map fun (x : Nat) => (x : Int)) ↔ a = b := by
    constructor
    · intro h
      have := congrArg (List.map Int.toNat) h
      simpa [Function.comp_def] using this
    · intro h; rw [h]
  exact decide_eq_decide.2 this
theorem encL_inj {a b : List Nat} {n : Nat} (_ha : a.length = 20) (_hb : b.length = 20) : encL a n = encL b n ↔ a = b := by
  constructor
  · intro h
    have h1 : ([0, 1] ++ List.replicate (n - 38) 255 ++ midL) ++ a = ([0, 1] ++ List.replicate (n - 38) 255 ++ midL) ++ b := by
      rw [← encL_pre a n _ rfl, ← encL_pre b n _ rfl, h]
    exact List.append_cancel_left h1
  · intro h; rw [h]
theorem raw8_rd {w : World} {a : Option Addr} {n c : Nat} {l : List Nat} (h : Raw8 w (.slice a n c) l) : n = l.length ∧ Rd .u8 w a l := by
  obtain ⟨a', c', e, _, _, h3, _⟩ := h
  simp only [Value.slice.injEq] at e
  obtain ⟨rfl, rfl, rfl⟩ := e
  exact ⟨rfl, h3⟩
theorem exec_load20 {o : Oper} {ev : Operand → Value} (x : Operand) (ho : o.op = .load 50 x) (g : Nat) (hx : ev x = .pointer (some ⟨g, 0, none⟩)) {d : List Nat} {W : World} (hc : CB W 50 g (u8s d)) (hd : d.length = 20) :
    (execOp ev o).run Tryz.prog W = .ok (.value (.agg (u8s d).toArray)) W := by
  unfold execOp
  simp only [ho, hx, Instr.loadAt, Instr.sureAddr, Sem.run_bind, Sem.run_pure, Result.andThen_ok, load20 hc hd]
theorem at0_pre (pre t : List Nat) (k i : Nat) (h : pre.length = k) : at0 (pre ++ t) (k + i) = at0 t i := by subst h; exact at0_append_right i
theorem encL_two (d : List Nat) (n : Nat) (h : 2 < n - 37) : at0 (encL d n) 2 = 255 := by
  obtain ⟨q, hq⟩ : ∃ q, n - 38 = q + 1 := ⟨n - 39, by omega⟩
  rw [encL, hq, List.replicate_succ]
  rfl
theorem encL_37 (d : List Nat) (n p : Nat) (h : n = p + 37) (hp : 2 ≤ p) : at0 (encL d n) p = 255 := by
  obtain ⟨i, hi⟩ : ∃ i, p = 2 + i := ⟨p - 2, by omega⟩
  have hlt : i < (List.replicate (n - 38) 255).length := by rw [List.length_replicate]; omega
  rw [hi, encL, at0_pre [0, 1] _ 2 i rfl, at0_append_left hlt, at0_getElem hlt, List.getElem_replicate]
theorem encL_36 (d : List Nat) (n p : Nat) (h : n = p + 36) (hp : 2 ≤ p) : at0 (encL d n) p = 0 := by
  have hl : ([0, 1] ++ List.replicate (n - 38) 255).length = p := by rw [List.length_append, List.length_replicate]; show 2 + _ = _; omega
  have h2 := at0_pre ([0, 1] ++ List.replicate (n - 38) 255) (midL ++ d) p 0 hl
  rw [Nat.add_zero, List.append_assoc] at h2
  exact h2
theorem encL_20 (d : List Nat) (n p i : Nat) (h : n = p + 20) (hn : 38 ≤ n) : at0 (encL d n) (p + i) = at0 d i := by
  have hl : ([0, 1] ++ List.replicate (n - 38) 255 ++ midL).length = p := by rw [List.length_append, List.length_append, List.length_replicate]; show 2 + _ + 16 = _; omega
  rw [encL_pre d n _ rfl]
  exact at0_pre _ d p i hl
theorem wpl_load20 {W : World} {ops : Array Oper} {rest : List Oper} {o : Oper} {act : Act} {Q : Exit → Act → World → Prop} (hg : o.guard = none) (x : Operand) (ho : o.op = .load 50 x) (g : Nat) (hx : act.eval x = .pointer (some ⟨g, 0, none⟩)) (d : List Nat) (hc : CB W 50 g (u8s d)) (hd : d.length = 20)
    (h : wpList Tryz.prog ops Q rest (act.put o.dst (.agg (u8s d).toArray)) W) : wpList Tryz.prog ops Q (o :: rest) act W :=
  wpList_plain hg fun K hK => wp_loadc 50 x ho g 0 20 hx hc _ Tryz.underlying50 rfl (zero_of_info info20).2 (by simp [u8s, hd]) (u8s d) (by rw [List.drop_zero]; exact List.take_of_length_le (by simp [u8s, hd])) (hK _ _ h)
set_option maxHeartbeats 800000 in
set_option maxRecDepth 100000 in
theorem rsaForms_any (a b : List Nat) (z : Int) (w : World) (hT : Trig w) (hF : Five w) (ha : a.length = 20) (ha8 : B8 a) (hb : b.length = 20) (hb8 : B8 b) (hz1 : -9223372036854775808 ≤ z) (hz2 : z ≤ 9223372036854775807) :
    Calls Tryz.prog 31 #[.agg (u8s a).toArray, .agg (u8s b).toArray, .int .i64 z] w fun e w' => e = .returned (.bool true) ∧ Below w.heap.size w w' := by
  have HTF := Lib.hid (fun (W : World) (h : Below w.heap.size w W) => And.intro (hT.below h) (hF.below h))
  obtain ⟨W0, hW0⟩ : ∃ W0, W0 = (w.alloc (.cells (u8s a).toArray 50)).alloc (.cells (u8s b).toArray 50) := ⟨_, rfl⟩
  have hB : Below w.heap.size w W0 := by rw [hW0]; exact bl2 w _ _
  have hca : CB W0 50 w.heap.size (u8s a) := by rw [hW0]; exact (CB.new w _ _).alloc _
  have hcb : CB W0 50 (w.heap.size + 1) (u8s b) := by rw [hW0]; exact cb2 w _ _ _
  have HCA := Lib.hid hca
  have HCB := Lib.hid hcb
  have HB := Lib.hid hB
  have HW := Lib.hid hW0
  have HA := Lib.hid (And.intro ha ha8)
  have HBB := Lib.hid (And.intro hb hb8)
  have HZ := Lib.hid (And.intro hz1 hz2)
  clear hB hT hF hW0 hca hcb ha ha8 hb hb8 hz1 hz2
  go_enter Tryz.func31, Tryz.ntmps31
  go_wp2_with fail
  rw [← HW.out]
  clear HW
  refine (pick8_any z 500 _ HZ.out.1 HZ.out.2 (by decide) (by decide)).mono ?_
  rintro e w1 ⟨m0, rfl, hm0, rfl⟩
  obtain ⟨n, hn⟩ : ∃ n : Nat, n = 40 + m0 := ⟨_, rfl⟩
  have hadd : (40 : Int) + (m0 : Int) = (n : Int) := by omega
  have hw : IntKind.i64.wrap (n : Int) = (n : Int) := wrap_i64_nat _ (by omega)
  have hn2 : 40 ≤ n ∧ n < 540 := by omega
  clear hn hm0
  have HN2 := Lib.hid hn2
  go_wp2_with (refine wpl_load20 rfl (.tmp 3) rfl w.heap.size rfl a HCA.out HA.out.1 ?_)
  refine (p_encoded a (n : Nat) _ HA.out.1 HA.out.2 (by omega) (by omega)).mono ?_
  rintro e w2 ⟨hb, v2, k2, b2, rfl, hE2, ho2⟩
  have HCA := Lib.hid (HCA.out.below hb)
  have HCB := Lib.hid (HCB.out.below hb)
  have HB := Lib.hid (HB.out.trans (hb.mono HB.out.size))
  have HO2 := Lib.hid ho2
  have HE2 := Lib.hid hE2
  obtain ⟨a2, c2, rfl, -⟩ := own8_form ho2
  clear hb ho2 hE2
  go_wp2_with (refine wpl_load20 rfl (.tmp 4) rfl (w.heap.size + 1) rfl b HCB.out HBB.out.1 ?_)
  refine (p_encoded b (n : Nat) _ HBB.out.1 HBB.out.2 (by omega) (by omega)).mono ?_
  rintro e w3 ⟨hb, v3, k3, b3, rfl, hE3, ho3⟩
  have HCA := Lib.hid (HCA.out.below hb)
  have HCB := Lib.hid (HCB.out.below hb)
  have HO2 := Lib.hid (own8_below HO2.out hb)
  have HB := Lib.hid (HB.out.trans (hb.mono HB.out.size))
  have HO3 := Lib.hid ho3
  have HE3 := Lib.hid hE3
  obtain ⟨a3, c3, rfl, -⟩ := own8_form ho3
  clear hb ho3 hE3
  by_cases hr : 46 ≤ n ∧ n ≤ 512
  · obtain ⟨rfl, rfl⟩ : k2 = 0 ∧ b2 = encL a n := by
      rcases HE2.out with ⟨h, _⟩ | ⟨_, _, h1, h2⟩
      · omega
      · exact ⟨h1, by rw [h2, Int.toNat_natCast]⟩
    obtain ⟨rfl, rfl⟩ : k3 = 0 ∧ b3 = encL b n := by
      rcases HE3.out with ⟨h, _⟩ | ⟨_, _, h1, h2⟩
      · omega
      · exact ⟨h1, by rw [h2, Int.toNat_natCast]⟩
    have q1 : decide ((n : Int) < 46) = false := decide_eq_false (by omega)
    have q2 : decide ((512 : Int) < (n : Int)) = false := decide_eq_false (by omega)
    have la : (encL a n).length = n := encL_len HA.out.1 (by omega)
    have lb : (encL b n).length = n := encL_len HBB.out.1 (by omega)
    have HR2 := Lib.hid (own8_raw HO2.out (encL_8 HA.out.2))
    have HR3 := Lib.hid (own8_raw HO3.out (encL_8 HBB.out.2))
    have hrd := (own8_rd2x HO2.out).1
    rw [la] at HR2 ⊢
    rw [lb] at HR3 ⊢
    have HLN : Hid ((encL a n).length ≤ 1099511627776) := by show _ ≤ _; omega
    obtain ⟨q, o, rfl⟩ := hrd.isAt (by omega)
    obtain ⟨p36, h36⟩ : ∃ p, n = p + 36 := ⟨n - 36, by omega⟩
    obtain ⟨p37, h37⟩ : ∃ p, n = p + 37 := ⟨n - 37, by omega⟩
    have s36 : (n : Int) - 36 = (p36 : Int) := by omega
    have s37 : (n : Int) - 37 = (p37 : Int) := by omega
    have w36 : IntKind.i64.wrap (p36 : Int) = (p36 : Int) := wrap_i64_nat _ (by omega)
    have w37 : IntKind.i64.wrap (p37 : Int) = (p37 : Int) := wrap_i64_nat _ (by omega)
    have b36 : (p36 : Int) < (n : Int) := by omega
    have b37 : (p37 : Int) < (n : Int) := by omega
    have z36 : (0 : Int) ≤ (p36 : Int) := by omega
    have z37 : (0 : Int) ≤ (p37 : Int) := by omega
    have n0 : (0 : Int) < (n : Int) := by omega
    have n1 : (1 : Int) < (n : Int) := by omega
    have n2 : (2 : Int) < (n : Int) := by omega
    have k0n : 0 < n := by omega
    have k1n : 1 < n := by omega
    have k2n : 2 < n := by omega
    have k36 : p36 < n := by omega
    have k37 : p37 < n := by omega
    have x0 : w3.cell? ⟨q, o, none⟩ = some (.int .u8 0) := hrd.cell (i := 0) (by omega)
    have x1 : w3.cell? ⟨q, o + 1, none⟩ = some (.int .u8 1) := hrd.cell (i := 1) (by omega)
    have x2 : w3.cell? ⟨q, o + 2, none⟩ = some (.int .u8 255) := by rw [hrd.cell (i := 2) (by omega), encL_two a n (by omega)]; rfl
    have x36 : w3.cell? ⟨q, o + p36, none⟩ = some (.int .u8 0) := by rw [hrd.cell (i := p36) (by omega), encL_36 a n p36 h36 (by omega)]; rfl
    have x37 : w3.cell? ⟨q, o + p37, none⟩ = some (.int .u8 255) := by rw [hrd.cell (i := p37) (by omega), encL_37 a n p37 h37 (by omega)]; rfl
    obtain ⟨eb, heb⟩ : ∃ eb, eb = decide (a = b) := ⟨_, rfl⟩
    have heq : ∀ W, (binOp .eql 50 (.agg (u8s a).toArray) (.agg (u8s b).toArray)).run Tryz.prog W = .ok (.bool eb) W := fun W => by rw [heb]; exact eqld a b HA.out.1 HBB.out.1 W
    have HEB := Lib.hid heb
    have HHN := Lib.hid hr
    obtain ⟨S, hS⟩ : ∃ S : World → Prop, S = fun W => CB W 50 w.heap.size (u8s a) ∧ CB W 50 (w.heap.size + 1) (u8s b) ∧ W.cell? ⟨q, o, none⟩ = some (.int .u8 0) ∧ W.cell? ⟨q, o + 1, none⟩ = some (.int .u8 1) ∧ W.cell? ⟨q, o + 2, none⟩ = some (.int .u8 255) ∧ W.cell? ⟨q, o + p36, none⟩ = some (.int .u8 0) ∧ W.cell? ⟨q, o + p37, none⟩ = some (.int .u8 255) := ⟨_, rfl⟩
    have HSK : Hid (∀ W, Below w3.heap.size w3.drew W → S W) := fun W hW => by
      have hW' : Below w3.drew.heap.size w3.drew W := hW
      have e : ∀ p v, w3.cell? p = some v → w3.drew.cell? p = some v := below_cell (Below.refl _ _).drew
      rw [hS]
      exact ⟨(HCA.out.below (Below.refl _ _).drew).below hW', (HCB.out.below (Below.refl _ _).drew).below hW', below_cell hW' _ _ (e _ _ x0), below_cell hW' _ _ (e _ _ x1), below_cell hW' _ _ (e _ _ x2), below_cell hW' _ _ (e _ _ x36), below_cell hW' _ _ (e _ _ x37)⟩
    clear heb hr hrd la lb h36 h37 x0 x1 x2 x36 x37 hn2
    go_upto_region 6 with fail
    refine wp_region_held (S := S) (by kernel_rfl) ?_
    change wpAnyH _ _ _ _ _ _ _ _ (World.drew _)
    have HCA := Lib.hid (HCA.out.below (Below.refl _ _).drew)
    have HR2 := Lib.hid (HR2.out.below (Below.refl _ _).drew)
    have HR3 := Lib.hid (HR3.out.below (Below.refl _ _).drew)
    have HB := Lib.hid HB.out.drew
    have HSS : Hid (S w3.drew) := HSK.out _ (Below.refl _ _)
    subst hS
    refine wpAnyH_take (i := 0) (v := ?_) rfl (by kernel_rfl) (by kernel_rfl) (by kernel_rfl) (fun _ _ _ h => h) (Or.inl ⟨by rfl, ?_⟩) HSS.out ?_
    case refine_2 => (rintro W ⟨-, -, c0, c1, c2, c36, c37⟩; go_simp; try (with_reducible rfl))
    refine wpAnyH_take (i := 1) (v := ?_) rfl (by kernel_rfl) (by kernel_rfl) (by kernel_rfl) (fun _ _ _ h => h) (Or.inl ⟨by rfl, ?_⟩) HSS.out ?_
    case refine_2 => (rintro W ⟨-, -, c0, c1, c2, c36, c37⟩; go_simp; try (with_reducible rfl))
    refine wpAnyH_take (i := 2) (v := ?_) rfl (by kernel_rfl) (by kernel_rfl) (by kernel_rfl) (fun _ _ _ h => h) (Or.inl ⟨by rfl, ?_⟩) HSS.out ?_
    case refine_2 => (rintro W ⟨-, -, c0, c1, c2, c36, c37⟩; go_simp; try (with_reducible rfl))
    go_simp
    refine wpAnyH_take (i := 3) (v := ?_) rfl (by kernel_rfl) (by kernel_rfl) (by kernel_rfl) (fun _ _ _ h => h) (Or.inl ⟨by rfl, ?_⟩) HSS.out ?_
    case refine_2 => (rintro W ⟨-, -, c0, c1, c2, c36, c37⟩; go_simp; try (with_reducible rfl))
    refine wpAnyH_take (i := 4) (v := ?_) rfl (by kernel_rfl) (by kernel_rfl) (by kernel_rfl) (fun _ _ _ h => h) (Or.inl ⟨by rfl, ?_⟩) HSS.out ?_
    case refine_2 => (rintro W ⟨-, -, c0, c1, c2, c36, c37⟩; go_simp; try (with_reducible rfl))
    refine wpAnyH_take (i := 5) (v := ?_) rfl (by kernel_rfl) (by kernel_rfl) (by kernel_rfl) (fun _ _ _ h => h) (Or.inl ⟨by rfl, ?_⟩) HSS.out ?_
    case refine_2 => (rintro W ⟨-, -, c0, c1, c2, c36, c37⟩; go_simp; try (with_reducible rfl))
    go_simp
    refine wpAnyH_take (i := 6) (v := ?_) rfl (by kernel_rfl) (by kernel_rfl) (by kernel_rfl) (fun _ _ _ h => h) (Or.inl ⟨by rfl, ?_⟩) HSS.out ?_
    case refine_2 => (rintro W ⟨-, -, c0, c1, c2, c36, c37⟩; go_simp; try (with_reducible rfl))
    refine wpAnyH_take (i := 7) (v := ?_) rfl (by kernel_rfl) (by kernel_rfl) (by kernel_rfl) (fun _ _ _ h => h) (Or.inl ⟨by rfl, ?_⟩) HSS.out ?_
    case refine_2 => (rintro W ⟨-, -, c0, c1, c2, c36, c37⟩; go_simp; try (with_reducible rfl))
    refine wpAnyH_take (i := 8) (v := ?_) rfl (by kernel_rfl) (by kernel_rfl) (by kernel_rfl) (fun _ _ _ h => h) (Or.inl ⟨by rfl, ?_⟩) HSS.out ?_
    case refine_2 => (rintro W ⟨-, -, c0, c1, c2, c36, c37⟩; go_simp; try (with_reducible rfl))
    go_simp
    refine wpAnyH_take (i := 9) (v := ?_) rfl (by kernel_rfl) (by kernel_rfl) (by kernel_rfl) (fun _ _ _ h => h) (Or.inl ⟨by rfl, ?_⟩) HSS.out ?_
    case refine_2 => (rintro W ⟨-, -, c0, c1, c2, c36, c37⟩; go_simp; try (with_reducible rfl))
    refine wpAnyH_take (i := 10) (v := ?_) rfl (by kernel_rfl) (by kernel_rfl) (by kernel_rfl) (fun _ _ _ h => h) (Or.inl ⟨by rfl, ?_⟩) HSS.out ?_
    case refine_2 => (rintro W ⟨-, -, c0, c1, c2, c36, c37⟩; go_simp; try (with_reducible rfl))
    refine wpAnyH_take (i := 11) (v := ?_) rfl (by kernel_rfl) (by kernel_rfl) (by kernel_rfl) (fun _ _ _ h => h) (Or.inl ⟨by rfl, ?_⟩) HSS.out ?_
    case refine_2 => (rintro W ⟨-, -, c0, c1, c2, c36, c37⟩; go_simp; try (with_reducible rfl))
    go_simp
    refine wpAnyH_take (i := 12) (v := ?_) rfl (by kernel_rfl) (by kernel_rfl) (by kernel_rfl) (fun _ _ _ h => h) (Or.inl ⟨by rfl, ?_⟩) HSS.out ?_
    case refine_2 => (rintro W ⟨-, -, c0, c1, c2, c36, c37⟩; go_simp; try (with_reducible rfl))
    refine wpAnyH_take (i := 13) (v := ?_) rfl (by kernel_rfl) (by kernel_rfl) (by kernel_rfl) (fun _ _ _ h => h) (Or.inl ⟨by rfl, ?_⟩) HSS.out ?_
    case refine_2 => (rintro W ⟨-, -, c0, c1, c2, c36, c37⟩; go_simp; try (with_reducible rfl))
    refine wpAnyH_take (i := 14) (v := ?_) rfl (by kernel_rfl) (by kernel_rfl) (by kernel_rfl) (fun _ _ _ h => h) (Or.inl ⟨by rfl, ?_⟩) HSS.out ?_
    case refine_2 => (rintro W ⟨-, -, c0, c1, c2, c36, c37⟩; go_simp; try (with_reducible rfl))
    go_simp
    refine wpAnyH_take (i := 15) (v := ?_) rfl (by kernel_rfl) (by kernel_rfl) (by kernel_rfl) (fun _ _ _ h => h) (Or.inl ⟨by rfl, ?_⟩) HSS.out ?_
    case refine_2 => (rintro W ⟨-, -, c0, c1, c2, c36, c37⟩; go_simp; try (with_reducible rfl))
    refine wpAnyH_take (i := 16) (v := ?_) rfl (by kernel_rfl) (by kernel_rfl) (by kernel_rfl) (fun _ _ _ h => h) (Or.inl ⟨by rfl, ?_⟩) HSS.out ?_
    case refine_2 => (rintro W ⟨-, -, c0, c1, c2, c36, c37⟩; go_simp; try (with_reducible rfl))
    refine wpAnyH_take (i := 17) (v := ?_) rfl (by kernel_rfl) (by kernel_rfl) (by kernel_rfl) (fun _ _ _ h => h) (Or.inl ⟨by rfl, ?_⟩) HSS.out ?_
    case refine_2 => (rintro W ⟨-, -, c0, c1, c2, c36, c37⟩; go_simp; try (with_reducible rfl))
    go_simp
    refine wpAnyH_take (i := 18) (v := ?_) rfl (by kernel_rfl) (by kernel_rfl) (by kernel_rfl) (fun _ _ _ h => h) (Or.inl ⟨by rfl, ?_⟩) HSS.out ?_
    case refine_2 => (rintro W ⟨-, -, c0, c1, c2, c36, c37⟩; go_simp; try (with_reducible rfl))
    refine wpAnyH_take (i := 19) (v := ?_) rfl (by kernel_rfl) (by kernel_rfl) (by kernel_rfl) (fun _ _ _ h => h) (Or.inl ⟨by rfl, ?_⟩) HSS.out ?_
    case refine_2 => (rintro W ⟨-, -, c0, c1, c2, c36, c37⟩; go_simp; try (with_reducible rfl))
    refine wpAnyH_take (i := 20) (v := ?_) rfl (by kernel_rfl) (by kernel_rfl) (by kernel_rfl) (fun _ _ _ h => h) (Or.inl ⟨by rfl, ?_⟩) HSS.out ?_
    case refine_2 => (rintro W ⟨-, -, c0, c1, c2, c36, c37⟩; go_simp; try (with_reducible rfl))
    go_simp
    refine wpAnyH_take (i := 22) (v := .agg (u8s a).toArray) rfl (by kernel_rfl) (by kernel_rfl) (by kernel_rfl) (fun _ _ _ h => h) (Or.inl ⟨by rfl, fun W h => exec_load20 (.tmp 3) rfl (w.heap.size) rfl h.1 HA.out.1⟩) HSS.out ?_
    go_simp
    refine wpAnyH_take (i := 23) (v := .agg (u8s b).toArray) rfl (by kernel_rfl) (by kernel_rfl) (by kernel_rfl) (fun _ _ _ h => h) (Or.inl ⟨by rfl, fun W h => exec_load20 (.tmp 4) rfl (w.heap.size + 1) rfl h.2.1 HBB.out.1⟩) HSS.out ?_
    go_simp
    refine wpAnyH_take (i := 24) (v := ?_) rfl (by kernel_rfl) (by kernel_rfl) (by kernel_rfl) (fun _ _ _ h => h) (Or.inl ⟨by rfl, ?_⟩) HSS.out ?_
    case refine_2 => (rintro W ⟨-, -, c0, c1, c2, c36, c37⟩; go_simp; try (with_reducible rfl))
    go_simp
    refine wpAnyH_op (i := 21) (by kernel_rfl) rfl (by rfl) (fun K hK => ?_)
    go_simp
    go_at_call 22
    refine (p_sameb HR2.out HR3.out HLN.out).mono ?_
    rintro e w4 ⟨hb, hor⟩
    obtain rfl : e = .returned (.bool eb) := by
      rcases hor with ⟨h, h'⟩ | ⟨h, h'⟩
      · rw [h', HEB.out, decide_eq_true ((encL_inj HA.out.1 HBB.out.1).1 h)]
      · rw [h', HEB.out, decide_eq_false (fun h2 => h ((encL_inj HA.out.1 HBB.out.1).2 h2))]
    go_simp
    have HSS := Lib.hid (HSK.out w4 hb)
    have HCA := Lib.hid (HCA.out.below hb)
    have HR2 := Lib.hid (HR2.out.below hb)
    have HB := Lib.hid (HB.out.trans (hb.mono HB.out.size))
    refine hK _ _ HSS.out ?_
    clear hK K hb hor
    refine wpAnyH_take (i := 25) (v := ?_) rfl (by kernel_rfl) (by kernel_rfl) (by kernel_rfl) (fun _ _ _ h => h) (Or.inl ⟨by rfl, ?_⟩) HSS.out ?_
    case refine_2 => (rintro W ⟨-, -, c0, c1, c2, c36, c37⟩; go_simp; try (with_reducible rfl))
    refine wpAnyH_take (i := 26) (v := ?_) rfl (by kernel_rfl) (by kernel_rfl) (by kernel_rfl) (fun _ _ _ h => h) (Or.inl ⟨by rfl, ?_⟩) HSS.out ?_
    case refine_2 => (rintro W ⟨-, -, c0, c1, c2, c36, c37⟩; go_simp; try (with_reducible rfl))
    refine wpAnyH_take (i := 27) (v := ?_) rfl (by kernel_rfl) (by kernel_rfl) (by kernel_rfl) (fun _ _ _ h => h) (Or.inl ⟨by rfl, ?_⟩) HSS.out ?_
    case refine_2 => (rintro W ⟨-, -, c0, c1, c2, c36, c37⟩; go_simp; try (with_reducible rfl))
    go_simp
    refine wpAnyH_take (i := 28) (v := ?_) rfl (by kernel_rfl) (by kernel_rfl) (by kernel_rfl) (fun _ _ _ h => h) (Or.inl ⟨by rfl, ?_⟩) HSS.out ?_
    case refine_2 => (rintro W ⟨-, -, c0, c1, c2, c36, c37⟩; go_simp; try (with_reducible rfl))
    refine wpAnyH_take (i := 29) (v := ?_) rfl (by kernel_rfl) (by kernel_rfl) (by kernel_rfl) (fun _ _ _ h => h) (Or.inl ⟨by rfl, ?_⟩) HSS.out ?_
    case refine_2 => (rintro W ⟨-, -, c0, c1, c2, c36, c37⟩; go_simp; try (with_reducible rfl))
    refine wpAnyH_take (i := 30) (v := ?_) rfl (by kernel_rfl) (by kernel_rfl) (by kernel_rfl) (fun _ _ _ h => h) (Or.inl ⟨by rfl, ?_⟩) HSS.out ?_
    case refine_2 => (rintro W ⟨-, -, c0, c1, c2, c36, c37⟩; go_simp; try (with_reducible rfl))
    go_simp
    refine wpAnyH_take (i := 31) (v := ?_) rfl (by kernel_rfl) (by kernel_rfl) (by kernel_rfl) (fun _ _ _ h => h) (Or.inl ⟨by rfl, ?_⟩) HSS.out ?_
    case refine_2 => (rintro W ⟨-, -, c0, c1, c2, c36, c37⟩; go_simp; try (with_reducible rfl))
    refine wpAnyH_take (i := 32) (v := ?_) rfl (by kernel_rfl) (by kernel_rfl) (by kernel_rfl) (fun _ _ _ h => h) (Or.inl ⟨by rfl, ?_⟩) HSS.out ?_
    case refine_2 => (rintro W ⟨-, -, c0, c1, c2, c36, c37⟩; go_simp; try (with_reducible rfl))
    refine wpAnyH_take (i := 33) (v := ?_) rfl (by kernel_rfl) (by kernel_rfl) (by kernel_rfl) (fun _ _ _ h => h) (Or.inl ⟨by rfl, ?_⟩) HSS.out ?_
    case refine_2 => (rintro W ⟨-, -, c0, c1, c2, c36, c37⟩; go_simp; try (with_reducible rfl))
    go_simp
    refine wpAnyH_take (i := 34) (v := ?_) rfl (by kernel_rfl) (by kernel_rfl) (by kernel_rfl) (fun _ _ _ h => h) (Or.inl ⟨by rfl, ?_⟩) HSS.out ?_
    case refine_2 => (rintro W ⟨-, -, c0, c1, c2, c36, c37⟩; go_simp; try (with_reducible rfl))
    refine wpAnyH_take (i := 35) (v := ?_) rfl (by kernel_rfl) (by kernel_rfl) (by kernel_rfl) (fun _ _ _ h => h) (Or.inl ⟨by rfl, ?_⟩) HSS.out ?_
    case refine_2 => (rintro W ⟨-, -, c0, c1, c2, c36, c37⟩; go_simp; try (with_reducible rfl))
    refine wpAnyH_take (i := 36) (v := ?_) rfl (by kernel_rfl) (by kernel_rfl) (by kernel_rfl) (fun _ _ _ h => h) (Or.inl ⟨by rfl, ?_⟩) HSS.out ?_
    case refine_2 => (rintro W ⟨-, -, c0, c1, c2, c36, c37⟩; go_simp; try (with_reducible rfl))
    go_simp
    refine wpAnyH_take (i := 37) (v := ?_) rfl (by kernel_rfl) (by kernel_rfl) (by kernel_rfl) (fun _ _ _ h => h) (Or.inl ⟨by rfl, ?_⟩) HSS.out ?_
    case refine_2 => (rintro W ⟨-, -, c0, c1, c2, c36, c37⟩; go_simp; try (with_reducible rfl))
    refine wpAnyH_take (i := 38) (v := ?_) rfl (by kernel_rfl) (by kernel_rfl) (by kernel_rfl) (fun _ _ _ h => h) (Or.inl ⟨by rfl, ?_⟩) HSS.out ?_
    case refine_2 => (rintro W ⟨-, -, c0, c1, c2, c36, c37⟩; go_simp; try (with_reducible rfl))
    refine wpAnyH_take (i := 39) (v := ?_) rfl (by kernel_rfl) (by kernel_rfl) (by kernel_rfl) (fun _ _ _ h => h) (Or.inl ⟨by rfl, ?_⟩) HSS.out ?_
    case refine_2 => (rintro W ⟨-, -, c0, c1, c2, c36, c37⟩; go_simp; try (with_reducible rfl))
    go_simp
    refine wpAnyH_take (i := 40) (v := ?_) rfl (by kernel_rfl) (by kernel_rfl) (by kernel_rfl) (fun _ _ _ h => h) (Or.inl ⟨by rfl, ?_⟩) HSS.out ?_
    case refine_2 => (rintro W ⟨-, -, c0, c1, c2, c36, c37⟩; go_simp; try (with_reducible rfl))
    refine wpAnyH_take (i := 41) (v := ?_) rfl (by kernel_rfl) (by kernel_rfl) (by kernel_rfl) (fun _ _ _ h => h) (Or.inl ⟨by rfl, ?_⟩) HSS.out ?_
    case refine_2 => (rintro W ⟨-, -, c0, c1, c2, c36, c37⟩; go_simp; try (with_reducible rfl))
    refine wpAnyH_take (i := 42) (v := ?_) rfl (by kernel_rfl) (by kernel_rfl) (by kernel_rfl) (fun _ _ _ h => h) (Or.inl ⟨by rfl, ?_⟩) HSS.out ?_
    case refine_2 => (rintro W ⟨-, -, c0, c1, c2, c36, c37⟩; go_simp; try (with_reducible rfl))
    go_simp
    refine wpAnyH_take (i := 43) (v := ?_) rfl (by kernel_rfl) (by kernel_rfl) (by kernel_rfl) (fun _ _ _ h => h) (Or.inl ⟨by rfl, ?_⟩) HSS.out ?_
    case refine_2 => (rintro W ⟨-, -, c0, c1, c2, c36, c37⟩; go_simp; try (with_reducible rfl))
    refine wpAnyH_take (i := 44) (v := ?_) rfl (by kernel_rfl) (by kernel_rfl) (by kernel_rfl) (fun _ _ _ h => h) (Or.inl ⟨by rfl, ?_⟩) HSS.out ?_
    case refine_2 => (rintro W ⟨-, -, c0, c1, c2, c36, c37⟩; go_simp; try (with_reducible rfl))
    refine wpAnyH_take (i := 45) (v := ?_) rfl (by kernel_rfl) (by kernel_rfl) (by kernel_rfl) (fun _ _ _ h => h) (Or.inl ⟨by rfl, ?_⟩) HSS.out ?_
    case refine_2 => (rintro W ⟨-, -, c0, c1, c2, c36, c37⟩; go_simp; try (with_reducible rfl))
    go_simp
    refine wpAnyH_take (i := 46) (v := ?_) rfl (by kernel_rfl) (by kernel_rfl) (by kernel_rfl) (fun _ _ _ h => h) (Or.inl ⟨by rfl, ?_⟩) HSS.out ?_
    case refine_2 => (rintro W ⟨-, -, c0, c1, c2, c36, c37⟩; go_simp; try (with_reducible rfl))
    refine wpAnyH_take (i := 47) (v := ?_) rfl (by kernel_rfl) (by kernel_rfl) (by kernel_rfl) (fun _ _ _ h => h) (Or.inl ⟨by rfl, ?_⟩) HSS.out ?_
    case refine_2 => (rintro W ⟨-, -, c0, c1, c2, c36, c37⟩; go_simp; try (with_reducible rfl))
    refine wpAnyH_take (i := 48) (v := ?_) rfl (by kernel_rfl) (by kernel_rfl) (by kernel_rfl) (fun _ _ _ h => h) (Or.inl ⟨by rfl, ?_⟩) HSS.out ?_
    case refine_2 => (rintro W ⟨-, -, c0, c1, c2, c36, c37⟩; go_simp; try (with_reducible rfl))
    go_simp
    refine wpAnyH_take (i := 49) (v := ?_) rfl (by kernel_rfl) (by kernel_rfl) (by kernel_rfl) (fun _ _ _ h => h) (Or.inl ⟨by rfl, ?_⟩) HSS.out ?_
    case refine_2 => (rintro W ⟨-, -, c0, c1, c2, c36, c37⟩; go_simp; try (with_reducible rfl))
    refine wpAnyH_take (i := 50) (v := ?_) rfl (by kernel_rfl) (by kernel_rfl) (by kernel_rfl) (fun _ _ _ h => h) (Or.inl ⟨by rfl, ?_⟩) HSS.out ?_
    case refine_2 => (rintro W ⟨-, -, c0, c1, c2, c36, c37⟩; go_simp; try (with_reducible rfl))
    refine wpAnyH_take (i := 51) (v := ?_) rfl (by kernel_rfl) (by kernel_rfl) (by kernel_rfl) (fun _ _ _ h => h) (Or.inl ⟨by rfl, ?_⟩) HSS.out ?_
    case refine_2 => (rintro W ⟨-, -, c0, c1, c2, c36, c37⟩; go_simp; try (with_reducible rfl))
    go_simp
    refine wpAnyH_take (i := 52) (v := ?_) rfl (by kernel_rfl) (by kernel_rfl) (by kernel_rfl) (fun _ _ _ h => h) (Or.inl ⟨by rfl, ?_⟩) HSS.out ?_
    case refine_2 => (rintro W ⟨-, -, c0, c1, c2, c36, c37⟩; go_simp; try (with_reducible rfl))
    refine wpAnyH_take (i := 53) (v := ?_) rfl (by kernel_rfl) (by kernel_rfl) (by kernel_rfl) (fun _ _ _ h => h) (Or.inl ⟨by rfl, ?_⟩) HSS.out ?_
    case refine_2 => (rintro W ⟨-, -, c0, c1, c2, c36, c37⟩; go_simp; try (with_reducible rfl))
    refine wpAnyH_take (i := 54) (v := ?_) rfl (by kernel_rfl) (by kernel_rfl) (by kernel_rfl) (fun _ _ _ h => h) (Or.inl ⟨by rfl, ?_⟩) HSS.out ?_
    case refine_2 => (rintro W ⟨-, -, c0, c1, c2, c36, c37⟩; go_simp; try (with_reducible rfl))
    go_simp
    refine wpAnyH_take (i := 55) (v := ?_) rfl (by kernel_rfl) (by kernel_rfl) (by kernel_rfl) (fun _ _ _ h => h) (Or.inl ⟨by rfl, ?_⟩) HSS.out ?_
    case refine_2 => (rintro W ⟨-, -, c0, c1, c2, c36, c37⟩; go_simp; try (with_reducible rfl))
    refine wpAnyH_take (i := 56) (v := ?_) rfl (by kernel_rfl) (by kernel_rfl) (by kernel_rfl) (fun _ _ _ h => h) (Or.inl ⟨by rfl, ?_⟩) HSS.out ?_
    case refine_2 => (rintro W ⟨-, -, c0, c1, c2, c36, c37⟩; go_simp; try (with_reducible rfl))
    refine wpAnyH_take (i := 57) (v := ?_) rfl (by kernel_rfl) (by kernel_rfl) (by kernel_rfl) (fun _ _ _ h => h) (Or.inl ⟨by rfl, ?_⟩) HSS.out ?_
    case refine_2 => (rintro W ⟨-, -, c0, c1, c2, c36, c37⟩; go_simp; try (with_reducible rfl))
    go_simp
    refine wpAnyH_take (i := 58) (v := ?_) rfl (by kernel_rfl) (by kernel_rfl) (by kernel_rfl) (fun _ _ _ h => h) (Or.inl ⟨by rfl, ?_⟩) HSS.out ?_
    case refine_2 => (rintro W ⟨-, -, c0, c1, c2, c36, c37⟩; go_simp; try (with_reducible rfl))
    refine wpAnyH_take (i := 59) (v := ?_) rfl (by kernel_rfl) (by kernel_rfl) (by kernel_rfl) (fun _ _ _ h => h) (Or.inl ⟨by rfl, ?_⟩) HSS.out ?_
    case refine_2 => (rintro W ⟨-, -, c0, c1, c2, c36, c37⟩; go_simp; try (with_reducible rfl))
    refine wpAnyH_take (i := 60) (v := ?_) rfl (by kernel_rfl) (by kernel_rfl) (by kernel_rfl) (fun _ _ _ h => h) (Or.inl ⟨by rfl, ?_⟩) HSS.out ?_
    case refine_2 => (rintro W ⟨-, -, c0, c1, c2, c36, c37⟩; go_simp; try (with_reducible rfl))
    go_simp
    go_simp
    refine wpAnyH_done (by kernel_rfl) ?_ _
    clear HSS HSK heq s36 s37 w36 w37 b36 b37 z36 z37 n0 n1 n2 k0n k1n k2n k36 k37
    have HRX := Lib.hid (raw8_rd HR2.out).2
    have HLX : Hid ((encL a n).length = n) := (raw8_rd HR2.out).1.symm
    obtain ⟨p20, h20⟩ : ∃ p, n = p + 20 := ⟨n - 20, by have := HHN.out; omega⟩
    have s20 : (n : Int) - 20 = (p20 : Int) := by omega
    have w20 : IntKind.i64.wrap (p20 : Int) = (p20 : Int) := wrap_i64_nat _ (by have := HHN.out; omega)
    have H20 := Lib.hid h20
    clear h20 hadd hw q1 q2
    go_wp2
    go_loopw [11] (fun iv wr => ∃ (i nn : Nat), i ≤ 20 ∧ iv = .int .i64 (i : Nat) ∧ wr = w4.drewN nn) (fun iv _ => 20 - (intOf iv).toNat)
    case atStart => exact ⟨0, 0, Nat.zero_le _, rfl, rfl⟩
    case round =>
      obtain ⟨i, nn, hi, rfl, rfl⟩ := hrel
      by_cases h0 : i < 20
      · have hq : decide ((i : Int) < (20 : Int)) = true := decide_eq_true (by omega)
        obtain ⟨r, hr⟩ : ∃ r, r = p20 + i := ⟨_, rfl⟩
        have hrn : r < n := by have := H20.out; omega
        have hsum : (p20 : Int) + (i : Int) = (r : Int) := by omega
        have hwr : IntKind.i64.wrap (r : Int) = (r : Int) := wrap_i64_nat _ (by have := HHN.out; omega)
        have hwi : IntKind.i64.wrap (i : Int) = (i : Int) := wrap_i64_nat _ (by omega)
        have hr0 : (0 : Int) ≤ (r : Int) := by omega
        have hi0 : (0 : Int) ≤ (i : Int) := by omega
        have hrI : (r : Int) < (n : Int) := by omega
        have hiI : (i : Int) < 20 := by omega
        have hcx : w4.cell? ⟨q, o + r, none⟩ = some (.int .u8 (at0 a i : Nat)) := by
          have h := HRX.out.cell (i := r) (by rw [HLX.out]; exact hrn)
          rw [← encL_20 a n p20 i H20.out (by have := HHN.out; omega), ← hr]
          exact h
        have hca : w4.cell? ⟨w.heap.size, i, none⟩ = some (.int .u8 (at0 a i : Nat)) := by
          have h := HCA.out.cell i
          have h20 : i < a.length := by rw [HA.out.1]; exact h0
          rw [h, at0_getElem h20]
          simp [u8s, List.getElem?_eq_getElem h20]
        generalize at0 a i = x at hcx hca
        have hxx : ((x : Int) != (x : Int)) = false := by simp
        clear hr
        go_wp2
        go_quiet (fail)
        go_wp2
        go_roundw
        case rel => exact ⟨i + 1, nn + nq, by omega, by go_num, by first | rfl | exact World.drewN_drewN _ _ _⟩
        case measure => simp [intOf]; omega
      · obtain rfl : i = 20 := by omega
        have hbn : Below w4.heap.size w4 (w4.drewN nn) := ⟨rfl, rfl, rfl, by simp, fun _ _ => by simp⟩
        have HB := Lib.hid (HB.out.trans (hbn.mono HB.out.size))
        clear hbn
        go_wp2_with fail
        refine (works8_any _ (HTF.out _ HB.out).1 (HTF.out _ HB.out).2).mono ?_
        rintro e w9 ⟨rfl, hb⟩
        have HB := Lib.hid (HB.out.trans (hb.mono HB.out.size))
        clear hb
        go_wp2
        go_ret
        exact ⟨rfl, HB.out⟩
  · obtain ⟨rfl, rfl⟩ : k2 = 81 ∧ b2 = [] := by
      rcases HE2.out with ⟨_, h1, h2⟩ | ⟨h, h', _⟩
      · exact ⟨h1, h2⟩
      · omega
    obtain ⟨rfl, rfl⟩ : k3 = 81 ∧ b3 = [] := by
      rcases HE3.out with ⟨_, h1, h2⟩ | ⟨h, h', _⟩
      · exact ⟨h1, h2⟩
      · omega
    have hor : decide ((n : Int) < 46) = true ∨ (decide ((n : Int) < 46) = false ∧ decide ((512 : Int) < (n : Int)) = true) := by
      by_cases h : n < 46
      · exact .inl (decide_eq_true (by omega))
      · exact .inr ⟨decide_eq_false (by omega), decide_eq_true (by omega)⟩
    have hl0 : ([] : List Nat).length = 0 := rfl
    rw [hl0]
    clear hr hl0
    rcases hor with q1 | ⟨q1, q2⟩
    all_goals
      go_wp2_with fail
      refine (works8_any _ (HTF.out _ HB.out).1 (HTF.out _ HB.out).2).mono ?_
      rintro e w9 ⟨rfl, hb⟩
      have HB := Lib.hid (HB.out.trans (hb.mono HB.out.size))
      clear hb
      go_wp2
      go_ret
      exact ⟨rfl, HB.out⟩

/-! A key that is lent; a book of rows of bytes. -/
set_option maxHeartbeats 4000000 in
set_option maxRecDepth 100000 in
theorem lentKey_any (aN : Option Addr) (lN cN : Nat) (Ns : List Nat) (aE : Option Addr) (lE cE : Nat) (Es : List Nat) (w : World)
    (hlN : Ns.length = lN) (hbN : lN ≤ 1048576) (hrN : Rd .u64 w aN Ns) (hlE : Es.length = lE) (hbE : lE ≤ 1048576) (hrE : Rd .u64 w aE Es) :
    Calls Tryz.prog 55 #[.agg #[.slice aN lN cN, .slice aE lE cE]] w fun e w' => ∃ g1 d1 g2 d2, e = .returned (.agg #[.slice (some ⟨g1, 0, none⟩) lN d1, .slice (some ⟨g2, 0, none⟩) lE d2]) ∧ LRow w' w.heap.size g1 lN d1 Ns ∧ LRow w' w.heap.size g2 lE d2 Es ∧ Below w.heap.size w w' := by
  have HLN := Lib.hid hlN
  have HLE := Lib.hid hlE
  have HRN := Lib.hid (fun (W : World) (h : Below w.heap.size w W) => hrN.below h)
  have HRE := Lib.hid (fun (W : World) (h : Below w.heap.size w W) => hrE.below h)
  have hbN' : lN ≤ 1099511627776 := by omega
  have hbE' : lE ≤ 1099511627776 := by omega
  clear hlN hrN hlE hrE
  have HW : Hid (Below w.heap.size w ((w.alloc (KO (.slice aN lN cN) (.slice aE lE cE))).alloc (KO (.slice none 0 0) (.slice none 0 0))).drew) := (((Below.refl w.heap.size w).alloc (Nat.le_refl _) _).alloc (by simp) _).drew
  have HE : Hid (((w.alloc (KO (.slice aN lN cN) (.slice aE lE cE))).alloc (KO (.slice none 0 0) (.slice none 0 0))).drew.heap[w.heap.size]? = some (KO (.slice aN lN cN) (.slice aE lE cE))) := heap_alloc2_old w (KO (.slice aN lN cN) (.slice aE lE cE)) (KO (.slice none 0 0) (.slice none 0 0))
  have HG : Hid (((w.alloc (KO (.slice aN lN cN) (.slice aE lE cE))).alloc (KO (.slice none 0 0) (.slice none 0 0))).drew.heap[w.heap.size + 1]? = some (KO (.slice none 0 0) (.slice none 0 0))) := heap_alloc2_new w (KO (.slice aN lN cN) (.slice aE lE cE)) (KO (.slice none 0 0) (.slice none 0 0))
  have hsz0 : w.heap.size + 2 ≤ ((w.alloc (KO (.slice aN lN cN) (.slice aE lE cE))).alloc (KO (.slice none 0 0) (.slice none 0 0))).drew.heap.size := by
    show _ ≤ ((w.alloc (KO (.slice aN lN cN) (.slice aE lE cE))).alloc (KO (.slice none 0 0) (.slice none 0 0))).heap.size
    simp
  have HSZ0 := Lib.hid hsz0
  clear hsz0
  go_enter Tryz.func55, Tryz.ntmps55
  go_wp2_with fail
  go_region_held3 (fun W => W.cell? ⟨w.heap.size, 0, none⟩ = some (.slice aN lN cN) ∧ W.cell? ⟨w.heap.size, 1, none⟩ = some (.slice aE lE cE))
    (first | exact KO.cells HE.out | exact KO.cells (other_set (other_set HE.out (by omega) _) (by omega) _))
    (first
      | (go_at_call 104; (with_reducible refine (lentWords_any aN lN cN Ns _ HLN.out hbN' (HRN.out _ HW.out)).mono ?_)
         rintro e w1 ⟨g1, d1, rfl, hO, -, hb1⟩
         have HE := Lib.hid (KO.below HE.out hb1)
         have HG := Lib.hid (KO.below HG.out hb1)
         have HO1 := Lib.hid (show LRow w1 (w.heap.size + 2) g1 lN d1 Ns from owns_base hO HSZ0.out)
         have HW := Lib.hid (HW.out.trans (hb1.mono HW.out.size))
         clear hO hb1)
      | (go_at_call 104; (with_reducible refine (lentWords_any aE lE cE Es _ HLE.out hbE' (HRE.out _ HW.out)).mono ?_)
         rintro e w2 ⟨g2, d2, rfl, hO, -, hb2⟩
         have HE := Lib.hid (KO.below HE.out hb2)
         have HG := Lib.hid (KO.below HG.out hb2)
         have hlg := lt_of_block HG.out
         have HO2 := Lib.hid (show LRow w2 (w.heap.size + 2) g2 lE d2 Es from owns_base hO (by have := HO1.out.2; have := lt_of_block (show w1.heap[w.heap.size + 1]? = some (KO (.slice none 0 0) (.slice none 0 0)) by assumption); omega))
         have HO1 := Lib.hid (HO1.out.below hb2)
         have HW := Lib.hid (HW.out.trans (hb2.mono HW.out.size))
         have kz0 := frozen_alloc (i := 0) HG.out
         have kz1 := frozen_alloc (i := 1) HG.out
         obtain ⟨kc0, kc1⟩ := KO.cells HG.out
         clear hO hb2))
  go_wp2
  have b1 := heap_setCell_same _ (w.heap.size + 1) 0 _ _ (.slice (some ⟨g1, 0, none⟩) lN d1) HG.out
  have b2 := heap_setCell_same _ (w.heap.size + 1) 1 _ _ (.slice (some ⟨g2, 0, none⟩) lE d2) b1
  have hC : Chg (fun k => k = w.heap.size + 1) w2 ((w2.setCell ⟨w.heap.size + 1, 0, none⟩ (.slice (some ⟨g1, 0, none⟩) lN d1)).setCell ⟨w.heap.size + 1, 1, none⟩ (.slice (some ⟨g2, 0, none⟩) lE d2)) :=
    ((Chg.refl (fun k => k = w.heap.size + 1) w2).setCell (p := ⟨w.heap.size + 1, 0, none⟩) rfl _).setCell (p := ⟨w.heap.size + 1, 1, none⟩) rfl _
  refine bodyPost_ret (results_Ky rfl rfl b2) rfl ⟨g1, d1, g2, d2, rfl, ?_, ?_, (HW.out.setCell (Nat.le_succ _) _).setCell (Nat.le_succ _) _⟩
  · exact LRow.base (hC.owns HO1.out (fun k hk he => by have := (World.ownsRow.lt HO1.out k hk).1; have he : k = w.heap.size + 1 := he; omega)) (by omega)
  · exact LRow.base (hC.owns HO2.out (fun k hk he => by have := (World.ownsRow.lt HO2.out k hk).1; have he : k = w.heap.size + 1 := he; omega)) (by omega)
set_option maxHeartbeats 800000 in
theorem keptKey_any (B g1 d1 g2 d2 : Nat) (aN : Option Addr) (lN cN : Nat) (Ns : List Nat) (aE : Option Addr) (lE cE : Nat) (Es : List Nat) (w : World)
    (hlN : Ns.length = lN) (hbN : lN ≤ 1048576) (hrN : Rd .u64 w aN Ns) (hlE : Es.length = lE) (hbE : lE ≤ 1048576) (hrE : Rd .u64 w aE Es) (h1 : LRow w B g1 lN d1 Ns) (h2 : LRow w B g2 lE d2 Es) :
    Calls Tryz.prog 61 #[.agg #[.slice (some ⟨g1, 0, none⟩) lN d1, .slice (some ⟨g2, 0, none⟩) lE d2], .agg #[.slice aN lN cN, .slice aE lE cE]] w fun e w' => e = .returned (.bool true) ∧ Below w.heap.size w w' := by
  obtain ⟨W2, hW2⟩ : ∃ W2, W2 = (w.alloc (KO (.slice (some ⟨g1, 0, none⟩) lN d1) (.slice (some ⟨g2, 0, none⟩) lE d2))).alloc (KO (.slice aN lN cN) (.slice aE lE cE)) := ⟨_, rfl⟩
  have HB := Lib.hid (((Below.refl w.heap.size w).alloc (Nat.le_refl _) (KO (.slice (some ⟨g1, 0, none⟩) lN d1) (.slice (some ⟨g2, 0, none⟩) lE d2))).alloc (by simp) (KO (.slice aN lN cN) (.slice aE lE cE)))
  have HA1 := Lib.hid (heap_alloc2_old w (KO (.slice (some ⟨g1, 0, none⟩) lN d1) (.slice (some ⟨g2, 0, none⟩) lE d2)) (KO (.slice aN lN cN) (.slice aE lE cE)))
  have HA2 := Lib.hid (heap_alloc2_new w (KO (.slice (some ⟨g1, 0, none⟩) lN d1) (.slice (some ⟨g2, 0, none⟩) lE d2)) (KO (.slice aN lN cN) (.slice aE lE cE)))
  rw [← hW2] at HB HA1 HA2
  have H1 := Lib.hid (h1.below HB.out)
  have H2 := Lib.hid (h2.below HB.out)
  have H3 := Lib.hid (hrN.below HB.out)
  have H4 := Lib.hid (hrE.below HB.out)
  have HX := Lib.hid hlN
  have HY := Lib.hid hlE
  have HWW := Lib.hid hW2
  clear hW2 h1 h2 hrN hrE hlN hlE
  obtain ⟨-, k1⟩ := KO.cells HA1.out
  obtain ⟨-, k2⟩ := KO.cells HA2.out
  have k3 := k1
  have k4 := k2
  rw [HWW.out] at k3 k4
  go_enter Tryz.func61, Tryz.ntmps61
  go_wp2_with fail
  rw [← HWW.out]
  refine (keptWords_any aN B g1 lN cN d1 Ns _ HX.out (by omega) H3.out H1.out).mono ?_
  rintro e w5 ⟨rfl, rfl⟩
  go_wp2_with fail
  clear k1 k2 k3 k4
  refine (keptWords_any aE B g2 lE cE d2 Es _ HY.out (by omega) H4.out H2.out).mono ?_
  rintro e w6 ⟨rfl, rfl⟩
  go_wp2
  go_ret
  exact ⟨rfl, HB.out⟩

end Go.Proofs.YtaookoejdnkkoaaGreatDoor
