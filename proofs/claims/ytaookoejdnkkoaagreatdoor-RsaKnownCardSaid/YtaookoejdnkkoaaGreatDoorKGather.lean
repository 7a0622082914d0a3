import Derived.Test.YtaookoejdnkkoaaGreatDoorKWa
import Derived.Test.YtaookoejdnkkoaaGreatDoorKF3
namespace Go.Proofs.YtaookoejdnkkoaaGreatDoor
open Go.RowKit

theorem infoC : (Tryz.prog.info? 232).map (fun i => (i.zero, i.size, i.bytes)) = some (some (.complex .f64 0 0), 1, 16) := by kernel_rfl
theorem wpl_makeC {w : World} {ops : Array Oper} {rest : List Oper} {o : Oper} {a : Act} {Q : Exit → Act → World → Prop} (hg : o.guard = none) (l c : Operand) (hop : o.op = Op.makeSlice 231 l c)
    (kl kc : IntKind) (L C : Int) (n : Nat) (hl : a.eval l = .int kl L) (hc : a.eval c = .int kc C) (hL : L = (n : Int)) (hC : C = (n : Int)) (hn : n ≤ 1048576)
    (hK : ∀ w' cur, CBlk w' w.heap.size cur → CA cur n (fun _ => (0, 0)) → Below w.heap.size w w' → w.heap.size < w'.heap.size → wpList Tryz.prog ops Q rest (a.put o.dst (.slice (some ⟨w.heap.size, 0, none⟩) n n)) w') :
    wpList Tryz.prog ops Q (o :: rest) a w := by
  obtain ⟨i, hi, hz, hsz, hb⟩ := info_parts infoC
  refine wpList_make_full w hg l c 231 hop w.heap.size 232 i (.complex .f64 0 0) 1 Tryz.underlying231 hi hz hsz kl kc L C n hl hc hL hC (by rw [hb]; omega) (by simp only [maxLen]; omega) (Nat.le_refl _) ?_
  intro w' hown hgr
  have hlt := (hown.lt _ rfl).2
  have hbl : Below w.heap.size w w' := (Below.refl _ _).grown hgr (Nat.le_refl _) (fun k hk => by cases hk)
  rcases hown.2 with ⟨hv, _⟩ | ⟨g, c', cur, hv, hb', hgg, hn', hm, hs, ht⟩
  · cases hv
  · cases hv
    refine hK w' cur hgg ⟨by simpa using hs, fun j hj => ?_⟩ hbl hlt
    have h2 : (cur.toList.take (n * 1))[j]? = some (.complex .f64 0 0) := by
      rw [ht]
      rw [Nat.mul_one, show (Value.complex .f64 0 0).cells = #[.complex .f64 0 0] from rfl, toList_madeCells_one]
      rw [List.getElem?_replicate, if_pos hj]
    rw [List.getElem?_take, if_pos (by omega)] at h2
    simpa [cx] using h2
attribute [local go_sem] run_store_complex
theorem Trig.below {w w' : World} (h : Trig w) (hb : Below w.heap.size w w') : Trig w' := fun i hi => ⟨below_cell hb _ _ (h i hi).1, below_cell hb _ _ (h i hi).2⟩

set_option maxHeartbeats 2000000 in
set_option maxRecDepth 100000 in
/-- unitRoots: the first half of the roots. -/
theorem unitRoots_any (S n nr : Nat) (w : World) (hS : 8 ≤ S) (hS2 : S ≤ 10) (hn : n = 2 ^ S) (hnr : nr = 2 ^ (S - 1)) (hT : Trig w) :
    Calls Tryz.prog 238 #[.int .i64 n] w fun e w' => e = .returned (.slice (some ⟨w.heap.size, 0, none⟩) nr nr) ∧ ∃ cur, CBlk w' w.heap.size cur ∧ CA cur nr (fun q => FF.R0 (q * 2 ^ (10 - S))) ∧ Below w.heap.size w w' := by
  have hn10 : n ≤ 1024 := by rw [hn]; exact Nat.pow_le_pow_right (n := 2) (by decide) hS2
  have hnr2 : n = 2 * nr := by rw [hn, hnr, ← Nat.pow_succ']; congr 1; omega
  have hfn : floatOfInt .f64 (n : Int) = FF.fi (2 ^ S) := by rw [hn, FF.fi_of_int]
  have HTr := Lib.hid (fun (W : World) (h : Below w.heap.size w W) => hT.below h)
  have HNR := Lib.hid hnr
  have HN2 := Lib.hid hnr2
  have hq2 : (n : Int) / 2 = (nr : Int) := by omega
  clear hn hnr hT
  have hnr9 : nr ≤ 512 := by omega
  clear hnr2
  have HANG : Hid (∀ i, i < nr → _) := fun i hi => angle_ok hS hS2 (i := i) (by rw [← HNR.out]; exact hi)
  generalize FF.fi (2 ^ S) = N0 at *
  go_enter Tryz.func238, Tryz.ntmps238
  go_wp2_with (at_make; refine wpl_makeC rfl _ _ rfl _ _ _ _ nr rfl rfl rfl rfl (by omega) ?_)
  intro w1 cur hB hA hbl hlt
  have HB := Lib.hid hB
  have HA := Lib.hid hA
  have HBL := Lib.hid hbl
  clear hB hA hbl
  go_wp2
  go_loopw [12] (fun iv wr => ∃ (i : Nat) (cur' : Array Value), iv = .int .i64 i ∧ i ≤ nr ∧ Hid (CBlk wr w.heap.size cur') ∧ Hid (CA cur' nr (fun q => if q < i then FF.R0 (q * 2 ^ (10 - S)) else (0, 0))) ∧ Hid (Below w.heap.size w wr)) (fun iv _ => nr - (intOf iv).toNat)
  case atStart => exact ⟨0, cur, rfl, Nat.zero_le _, HB, HA.out.congr fun q _ => by rw [if_neg (by omega)], HBL⟩
  case round =>
    clear HB HA HBL
    obtain ⟨i, cur', rfl, hi, HB, HA, HBL⟩ := hrel
    by_cases hil : i < nr
    · obtain ⟨a, x, ka, kx, k0, ksc⟩ := HANG.out i hil
      have hfi : floatOfInt .f64 (i : Int) = FF.fi i := FF.fi_of_int i
      generalize FF.fi i = I0 at *
      have e1 := fop .mul ka
      have e2 := fop .quo kx
      have hTw : Trig wr := HTr.out _ HBL.out
      have hsc := fun W (hW : Trig W) => sincos_any x _ _ W hW k0 ksc
      have HSC := Lib.hid hsc
      clear hsc k0 ksc ka kx
      have c1 : wr.cell? ⟨w.heap.size, i, none⟩ = some (.complex .f64 0 0) := by
        rw [HB.out.cell, HA.out.2 i hil]; dsimp only; rw [if_neg (by omega)]; rfl
      have f1 : wr.frozen? ⟨w.heap.size, i, none⟩ = false := HB.out.free i
      generalize hr : FF.R0 (i * 2 ^ (10 - S)) = r at *
      have HR := Lib.hid hr
      clear hr
      go_wp2_with fail
      refine (HSC.out _ hTw).mono ?_
      rintro e w2 ⟨rfl, rfl⟩
      go_wp2
      go_roundw
      case rel =>
        refine ⟨i + 1, _, by go_num, by omega, HB.out.set i (.complex .f64 r.1 r.2), ?_, HBL.out.setCell (p := ⟨w.heap.size, i, none⟩) (Nat.le_refl _) _⟩
        refine (HA.out.set i r).congr fun q hq => ?_
        by_cases h1 : q = i
        · subst h1; rw [if_pos rfl, if_pos (by omega), HR.out]
        · rw [if_neg h1]
          by_cases h2 : q < i
          · rw [if_pos h2, if_pos (by omega)]
          · rw [if_neg h2, if_neg (by omega)]
      case measure => simp [intOf]; omega
    · obtain rfl : i = nr := by omega
      go_wp2
      go_ret
      refine ⟨rfl, cur', HB.out, HA.out.congr fun q hq => by rw [if_pos hq], HBL.out⟩

/-- The sum of the digits' sums, each in its place. -/
def dg (n : Nat) (cc : Nat → Nat) : Nat → Nat
  | 0 => 0
  | i + 1 => dg n cc i + 65536 ^ i * (if i < n then cc i else 0)
theorem or_add {o s k : Nat} (ho : o < 2 ^ k) (hs : s * 2 ^ k < 18446744073709551616) (ho2 : o < 18446744073709551616) : bits BinOp.or IntKind.u64 (o : Int) ((s * 2 ^ k : Nat) : Int) = ((o + s * 2 ^ k : Nat) : Int) := by
  rw [u64_or_nat o (s * 2 ^ k) ho2 hs]
  congr 1
  have h := Nat.two_pow_add_eq_or_of_lt ho s
  rw [Nat.or_comm, Nat.mul_comm s, ← h, Nat.add_comm]
theorem pow_16 (i : Nat) : 65536 ^ i = 18446744073709551616 ^ (i / 4) * 2 ^ (i % 4 * 16) := by
  rw [show (65536 : Nat) = 2 ^ 16 from rfl, show (18446744073709551616 : Nat) = 2 ^ 64 from rfl, ← Nat.pow_mul, ← Nat.pow_mul, ← Nat.pow_add]
  congr 1; omega

set_option maxHeartbeats 2000000 in
set_option maxRecDepth 100000 in
theorem gathered_any (g n c L S : Nat) (cur : Array Value) (f : Nat → Nat × Nat) (cc : Nat → Nat) (w : World) (hB : CBlk w g cur) (hA : CA cur n f) (hS : S ≤ 10) (hn : n = 2 ^ S) (_hcn : n ≤ c) (hL : L ≤ 1024)
    (hq : ∀ j, j < n → cc j < 2 ^ 43 ∧ ∃ r, floatBits .quo .f64 (f j).2 (FF.fi (2 ^ (S + 1))) = some r ∧ FF.fin r ∧ ((cc j : Nat) : Rat) - 1 / 4 ≤ FF.fv r ∧ FF.fv r ≤ ((cc j : Nat) : Rat) + 1 / 4) :
    Calls Tryz.prog 241 #[.slice (some ⟨g, 0, none⟩) n c, .int .i64 L] w fun e w' => ∃ v ws cy, e = .returned v ∧ own64 w' w.heap.size v ws ∧ ws.length = L ∧ Bd ws ∧ val ws + 65536 ^ (4 * L) * cy = dg n cc (4 * L) ∧ Below w.heap.size w w' := by
  have hn10 : n ≤ 1024 := by rw [hn]; exact Nat.pow_le_pow_right (n := 2) (by decide) hS
  have hfn : floatOfInt .f64 (n : Int) = FF.fi (2 ^ S) := by rw [hn, FF.fi_of_int]
  have h2 : FF.fi 2 = 4611686018427387904 := by decide +kernel
  have hsc := FF.scale_mul hS
  rw [h2] at hsc
  have e0 := fop .mul (show floatBits .mul .f64 4611686018427387904 (FF.fi (2 ^ S)) = some (FF.fi (2 ^ (S + 1))) from hsc)
  have HQ := Lib.hid hq
  have HB0 := Lib.hid hB
  have HA0 := Lib.hid hA
  clear hsc h2 hq hn hB hA
  generalize FF.fi (2 ^ S) = N0 at *
  generalize FF.fi (2 ^ (S + 1)) = N1 at *
  have hq4 : (L : Int) * 4 = ((4 * L : Nat) : Int) := by omega
  go_enter Tryz.func241, Tryz.ntmps241
  go_wp2_with (at_make; refine wpl_make64 rfl _ _ rfl w.heap.size _ _ _ _ L rfl rfl rfl rfl (by omega) (Nat.le_refl _) ?_)
  intro w1 hown hbl hlt
  have HO := Lib.hid hown
  have HBL := Lib.hid hbl
  clear hown hbl
  go_wp2
  go_loopw [7, 17] (fun cv iv wr => ∃ (i cy : Nat) (ws : List Nat), iv = .int .i64 i ∧ cv = .int .u64 cy ∧ i ≤ 4 * L ∧ cy < 268435456 ∧ Hid (own64 wr w.heap.size (.slice (some ⟨w.heap.size, 0, none⟩) L L) ws) ∧ Hid (Bd ws) ∧ Hid (val ws + 65536 ^ i * cy = dg n cc i) ∧ Hid (at0 ws (i / 4) < 2 ^ (i % 4 * 16) ∧ ∀ j, i / 4 < j → at0 ws j = 0) ∧ Hid (Below w.heap.size w wr)) (fun cv iv _ => 4 * L - (intOf iv).toNat)
  case atStart =>
    have h0 : ∀ j, at0 (List.replicate L 0) j = 0 := fun j => by
      unfold at0 List.getD
      by_cases hj : j < L
      · simp [hj]
      · simp [hj]
    refine ⟨0, 0, _, rfl, rfl, Nat.zero_le _, by omega, HO, fun x hx => by rw [List.eq_of_mem_replicate hx]; decide, ?_, ⟨by rw [h0]; exact Nat.two_pow_pos _, fun j _ => h0 j⟩, HBL⟩
    show _ = _
    rw [val_replicate]; simp [dg]
  case round =>
    clear HO HBL
    obtain ⟨i, cy, ws, rfl, rfl, hi, hcy, HO, HBD, HV, HZ, HBL⟩ := hrel
    have HL : Hid (L = ws.length) := (own64.rd HO.out).1
    by_cases hil : i < 4 * L
    · have hlj : i / 4 < L := by omega
      have hlen := HL.out
      have hc2 := own64.cell HO.out (j := i / 4) (by omega)
      have hf2 := own64.free HO.out (i / 4)
      have hz := HZ.out.1
      have hob : at0 ws (i / 4) < 18446744073709551616 := HBD.out.at0 _
      clear hlen
      obtain ⟨ci, hci, hcb⟩ : ∃ ci, ci = (if i < n then cc i else 0) ∧ ci < 8796093022208 := ⟨_, rfl, by
        by_cases h : i < n
        · rw [if_pos h]; exact (HQ.out i h).1
        · rw [if_neg h]; decide⟩
      have HCI := Lib.hid hci
      obtain ⟨d, hd⟩ : ∃ d, d = (cy + ci) % 65536 := ⟨_, rfl⟩
      have hand : bits BinOp.and IntKind.u64 ((cy : Int) + (ci : Int)) 65535 = (d : Int) := by
        rw [hd, ← and_16 (cy + ci) (by omega)]; rfl
      have hk : i % 4 * 16 ≤ 48 := by omega
      have hpk : 2 ^ (i % 4 * 16) ≤ 2 ^ 48 := Nat.pow_le_pow_right (by decide) hk
      have hd16 : d < 65536 := by omega
      have hsh0 : d * 2 ^ (i % 4 * 16) < 18446744073709551616 := by
        have := Nat.mul_le_mul (show d ≤ 65535 by omega) hpk
        omega
      have hor := or_add (o := at0 ws (i / 4)) (s := d) (k := i % 4 * 16) hz hsh0 hob
      obtain ⟨sh, hsh⟩ : ∃ sh, sh = d * 2 ^ (i % 4 * 16) := ⟨_, rfl⟩
      rw [← hsh] at hor hsh0
      have hshl : (d : Int) * 2 ^ (i % 4 * 16) = (sh : Int) := by rw [hsh, Int.natCast_mul, Int.natCast_pow]; rfl
      have hst := own64.set HO.out (i / 4) (at0 ws (i / 4) + sh)
      obtain ⟨nl, hnl⟩ : ∃ nl, nl = at0 ws (i / 4) + sh := ⟨_, rfl⟩
      rw [← hnl] at hor hst
      have hset := set_val (ws := ws) (q := i / 4) (y := nl) (by have := HL.out; omega)
      have hnb : nl < 18446744073709551616 := by
        have hk2 : i % 4 = 0 ∨ i % 4 = 1 ∨ i % 4 = 2 ∨ i % 4 = 3 := by omega
        rcases hk2 with h | h | h | h <;> rw [h] at hsh hz <;> omega
      have HNL := Lib.hid (And.intro hnl (And.intro hsh (And.intro hd (And.intro hset hnb))))
      have HST := Lib.hid hst
      have HNEW : Hid (val (ws.set (i / 4) nl) + 65536 ^ (i + 1) * ((cy + ci) / 65536) = dg n cc (i + 1) ∧ (cy + ci) / 65536 < 268435456 ∧ (at0 (ws.set (i / 4) nl) ((i + 1) / 4) < 2 ^ ((i + 1) % 4 * 16) ∧ ∀ j, (i + 1) / 4 < j → at0 (ws.set (i / 4) nl) j = 0)) := by
        have hv := HV.out
        refine ⟨?_, by omega, ?_⟩
        · show _ = dg n cc i + 65536 ^ i * (if i < n then cc i else 0)
          rw [← hci, ← hv, Nat.pow_succ]
          have e1 : 65536 ^ i * d + 65536 ^ i * 65536 * ((cy + ci) / 65536) = 65536 ^ i * (cy + ci) := by
            rw [hd, Nat.mul_assoc, ← Nat.mul_add, Nat.mod_add_div]
          have e2 : 18446744073709551616 ^ (i / 4) * nl = 18446744073709551616 ^ (i / 4) * at0 ws (i / 4) + 65536 ^ i * d := by
            rw [hnl, hsh, Nat.mul_add, pow_16 i, Nat.mul_assoc, Nat.mul_comm d]
          rw [Nat.mul_add] at e1
          omega
        · have hat : ∀ j, at0 (ws.set (i / 4) nl) j = if j = i / 4 then nl else at0 ws j := by
            intro j
            unfold at0 List.getD
            by_cases e : j = i / 4
            · subst e; rw [if_pos rfl, List.getElem?_set_self (by have := HL.out; omega)]; rfl
            · rw [if_neg e, List.getElem?_set_ne (Ne.symm e)]
          refine ⟨?_, fun j hj => ?_⟩
          · rw [hat]
            by_cases e : (i + 1) / 4 = i / 4
            · rw [if_pos e]
              have hk2 : i % 4 = 0 ∧ (i + 1) % 4 = 1 ∨ i % 4 = 1 ∧ (i + 1) % 4 = 2 ∨ i % 4 = 2 ∧ (i + 1) % 4 = 3 := by omega
              rcases hk2 with ⟨h, h'⟩ | ⟨h, h'⟩ | ⟨h, h'⟩ <;> rw [h'] <;> rw [h] at hsh hz <;> omega
            · rw [if_neg e, HZ.out.2 _ (by omega)]; exact Nat.two_pow_pos _
          · rw [hat, if_neg (by omega)]
            exact HZ.out.2 _ (by omega)
      have hshb : sh < 18446744073709551616 := hsh0
      clear hst hset hnl hnb hsh hd hz hob hsh0 hpk hk
      generalize at0 ws (i / 4) = o at *
      by_cases hin : i < n
      · obtain ⟨-, r, k1, k2, k3, k4⟩ := HQ.out i hin
        rw [show cc i = ci by rw [HCI.out, if_pos hin]] at k3 k4
        have hb64 : r < 18446744073709551616 := FF.div_lt64 k1
        have hrn := FF.rnd_near hb64 k2 k3 k4 (by omega)
        have hpre := FF.round_pre hb64 k2 k3 k4 (by omega)
        have hti := FF.to_int hrn.1 hrn.2.1 (by omega)
        have e1 := fop .quo k1
        have e2 : ∀ w, (convert 233 47 (.float .f64 (FF.rnd r))).run Tryz.prog w = .ok (.int .u64 ci) w := fun w => run_convert_float_int w _ _ .f64 .u64 (FF.rnd r) ci (by kernel_rfl) Tryz.underlying47 hti
        have HRD := Lib.hid (fun W => round_any r W hb64 hpre)
        have c1 : wr.cell? ⟨g, i, none⟩ = some (.complex .f64 (f i).1 (f i).2) := by
          rw [below_cell HBL.out _ _ (show w.cell? ⟨g, i, none⟩ = some (cx (f i)) by rw [HB0.out.cell, HA0.out.2 i hin])]; rfl
        generalize (f i).1 = fre at *
        generalize (f i).2 = fim at *
        generalize FF.rnd r = rr at *
        clear k1 k2 k3 k4 hrn hpre hti hci
        have hHR : Hid (∀ W, Calls Tryz.prog 250 #[.float .f64 r] W fun e w' => e = .returned (.float .f64 rr) ∧ W = w') := HRD.out
        clear HRD
        go_wp2_with fail
        refine (hHR.out _).mono ?_
        rintro e w2 ⟨rfl, rfl⟩
        go_wp2
        have hy : (cy : Int) + (ci : Int) = ((cy + ci : Nat) : Int) := by omega
        have hi4 : (i : Int) / 4 < L := by omega
        have HX : Hid (bits BinOp.or IntKind.u64 (o : Int) (IntKind.u64.wrap (bits BinOp.and IntKind.u64 ((cy + ci : Nat) : Int) 65535 * 2 ^ (i % 4 * 16))) = (nl : Int)) := by
          show _ = _
          rw [← hy, hand, hshl, show IntKind.u64.wrap (sh : Int) = (sh : Int) from by rw [IntKind.wrap_u64]; omega, hor]
        clear hand hshl hor
        generalize hyy : cy + ci = y at *
        have HY := Lib.hid hyy
        clear hyy
        go_region
        go_wp2
        go_roundw
        case rel =>
          rw [HX.out]
          refine ⟨i + 1, y / 65536, ws.set (i / 4) nl, by go_num, lit64 (by omega), by omega, HNEW.out.2.1, HST.out, HBD.out.set HNL.out.2.2.2.2, HNEW.out.1, HNEW.out.2.2, ?_⟩
          exact (HBL.out.setCell (p := ⟨w.heap.size, i / 4, none⟩) (Nat.le_refl _) _).drew
        case measure => simp [intOf]; omega
      · obtain rfl : ci = 0 := by rw [HCI.out, if_neg hin]
        simp only [Int.natCast_zero, Int.add_zero, Nat.add_zero] at hand HNEW HNL
        have hi4 : (i : Int) / 4 < L := by omega
        have HX : Hid (bits BinOp.or IntKind.u64 (o : Int) (IntKind.u64.wrap (bits BinOp.and IntKind.u64 (cy : Int) 65535 * 2 ^ (i % 4 * 16))) = (nl : Int)) := by
          show _ = _
          rw [hand, hshl, show IntKind.u64.wrap (sh : Int) = (sh : Int) from by rw [IntKind.wrap_u64]; omega, hor]
        clear hand hshl hor
        have hdn : decide (i < n) = false := by rw [decide_eq_false_iff_not]; exact hin
        clear hci hcb
        go_wp2
        go_region
        go_wp2
        go_roundw
        case rel =>
          rw [HX.out]
          refine ⟨i + 1, cy / 65536, ws.set (i / 4) nl, by go_num, lit64 (by omega), by omega, HNEW.out.2.1, HST.out, HBD.out.set HNL.out.2.2.2.2, HNEW.out.1, HNEW.out.2.2, ?_⟩
          exact (HBL.out.setCell (p := ⟨w.heap.size, i / 4, none⟩) (Nat.le_refl _) _).drew
        case measure => simp [intOf]; omega
    · obtain rfl : i = 4 * L := by omega
      go_wp2
      go_ret
      exact ⟨_, ws, cy, rfl, HO.out, HL.out.symm, HBD.out, HV.out, HBL.out⟩

/-- A digit of the transform. -/
def dgt (v i : Nat) : Nat := v / 65536 ^ i % 65536
theorem dgt_le (v i : Nat) : dgt v i ≤ 65535 := by unfold dgt; omega
theorem dgt_at {xs : List Nat} (bx : Bd xs) {i : Nat} (hi : i < 4 * xs.length) : at0 xs (i / 4) / 2 ^ (i % 4 * 16) % 65536 = dgt (val xs) i := by
  unfold dgt
  rw [at0_val bx (i / 4) (by omega), pow_16 i, ← Nat.div_div_eq_div_mul]
  generalize val xs / 18446744073709551616 ^ (i / 4) = V
  have hk2 : i % 4 = 0 ∨ i % 4 = 1 ∨ i % 4 = 2 ∨ i % 4 = 3 := by omega
  rcases hk2 with h | h | h | h <;> rw [h] <;> omega
theorem dgt_zero {v k i : Nat} (h : v < 2 ^ k) (hi : (k + 15) / 16 ≤ i) : dgt v i = 0 := by
  unfold dgt
  have : 2 ^ k ≤ 65536 ^ i := by
    rw [show (65536 : Nat) = 2 ^ 16 from rfl, ← Nat.pow_mul]
    exact Nat.pow_le_pow_right (by decide) (by omega)
  rw [Nat.div_eq_of_lt (by omega)]
theorem digits_eq (a : Option Addr) (la ca k : Nat) (xs : List Nat) (w : World) (hla : xs.length = la) (hba : la ≤ 1099511627776) (hca : la ≤ ca) (hra : Rd .u64 w a xs) (bx : Bd xs) (hk : BitsIs (val xs) k) (d : Nat) (hd : (k + 15) / 16 = d) :
    Calls Tryz.prog 236 #[.slice a la ca] w fun e w' => e = .returned (.int .i64 (d : Nat)) ∧ w = w' := by
  refine (digits_any a la ca xs w hla hba hca hra bx).mono ?_
  rintro e w' ⟨⟨k', rfl, hk'⟩, rfl⟩
  rw [bits_unique hk' hk, hd]
  exact ⟨rfl, rfl⟩
theorem run_good {j : Nat} (t : Nat) : ∀ (n M : Nat) (f : Nat → Nat × Nat), n = M * 2 ^ t → j + t ≤ 10 → Good (gb j) n f → Good (gb (j + t)) n (runL t f) := by
  induction t generalizing j with
  | zero => intro n M f _ _ h; exact h
  | succ t ih =>
    intro n M f hn hj h
    simp only [runL]
    have e : n = M * (2 * 2 ^ t) := by rw [hn, Nat.pow_succ, Nat.mul_comm 2]
    have h2 := lev_good h (gb_le (by omega)) (by omega) e
    have h3 := ih (j := j + 1) n (M * 2) (lev t f) (by rw [e, Nat.mul_assoc]) (by omega) h2
    rw [show j + (t + 1) = j + 1 + t by omega]; exact h3
/-- The places that the factors' digits make. -/
def plc (u v db i : Nat) : Nat × Nat := if i < db then FF.fadd (FF.fi (dgt u i), 0) (0, FF.fi (dgt v i)) else (FF.fi (dgt u i), 0)
theorem plc_ok (u v db i : Nat) (hv : ∀ j, db ≤ j → dgt v j = 0) : FF.cfin (plc u v db i) ∧ FF.cv (plc u v db i) = ⟨((dgt u i : Nat) : Rat), ((dgt v i : Nat) : Rat)⟩ := by
  unfold plc
  split
  · have := FF.place_val (dgt_le u i) (dgt_le v i)
    exact ⟨this.2.1, this.2.2⟩
  · rw [hv i (by omega)]
    exact FF.place_half (dgt_le u i)
theorem plc_good (u v db n : Nat) (hv : ∀ j, db ≤ j → dgt v j = 0) : Good (gb 0) n (plc u v db) := by
  intro p _
  obtain ⟨h1, h2⟩ := plc_ok u v db p hv
  refine ⟨h1, ?_⟩
  unfold FF.mass FF.N
  rw [h2]
  dsimp only
  have a : ((dgt u p : Nat) : Rat) ≤ ((65535 : Nat) : Rat) := Rat.natCast_le_natCast.2 (dgt_le u p)
  have b : ((dgt v p : Nat) : Rat) ≤ ((65535 : Nat) : Rat) := Rat.natCast_le_natCast.2 (dgt_le v p)
  have m1 := FF.mul_mono Rat.natCast_nonneg Rat.natCast_nonneg a a
  have m2 := FF.mul_mono Rat.natCast_nonneg Rat.natCast_nonneg b b
  have c : ((65535 : Nat) : Rat) * ((65535 : Nat) : Rat) + ((65535 : Nat) : Rat) * ((65535 : Nat) : Rat) + FF.p2 (-2000) ≤ gb 0 := by decide +kernel
  grind
/-- The squares of what the transform leaves. -/
def sqs (S : Nat) (f : Nat → Nat × Nat) (p : Nat) : Nat × Nat := FF.fmul (FF.TF FF.R0 S f p) (FF.TF FF.R0 S f p)
theorem sqs_ok {S : Nat} {f : Nat → Nat × Nat} (hS : S ≤ 10) (hg : Good (gb 0) (2 ^ S) f) : ∀ p, p < 2 ^ S → cMulBits (FF.TF FF.R0 S f p).1 (FF.TF FF.R0 S f p).2 (FF.TF FF.R0 S f p).1 (FF.TF FF.R0 S f p).2 = some (sqs S f p) ∧ FF.cfin (sqs S f p) ∧ FF.Le (FF.cv (sqs S f p)) (hbk 0) := by
  intro p hp
  have h1 := run_good (j := 0) S (2 ^ S) 1 f (by rw [Nat.one_mul]) (by omega) hg p hp
  have h2 := run_tf S f 0 p hp
  simp only [Nat.zero_mul, Nat.zero_add] at h2 h1
  rw [h2] at h1
  have hb := gb_le hS
  have c90 : FF.p2 90 ≤ FF.p2 100 := by decide +kernel
  obtain ⟨s1, s2, s3, _⟩ := FF.step_sq (X := ⟨0, 0⟩) h1.1 (by have := h1.2; grind)
  refine ⟨s1, s2, s3.mono ?_⟩
  have c : 1001 / 1000 * FF.p2 90 + FF.p2 (-900) ≤ hbk 0 := by decide +kernel
  have := h1.2
  grind
theorem dg_eq (n : Nat) (cc : Nat → Nat) (m : Nat) : dg n cc m = FF.ns m (fun j => 65536 ^ j * (if j < n then cc j else 0)) := by
  induction m with
  | zero => rfl
  | succ m ih => simp only [dg, FF.ns]; rw [ih]
/-- What 'gathered' is handed makes the product. -/
theorem gather_ok {u v ka kb S L : Nat} (hu : u < 2 ^ ka) (hv : v < 2 ^ kb) (hS : S ≤ 10) (hd : (ka + 15) / 16 + (kb + 15) / 16 ≤ 514) (hn : (ka + 15) / 16 + (kb + 15) / 16 ≤ 2 ^ S + 1) (hL : (ka + 15) / 16 + (kb + 15) / 16 ≤ 4 * L) (ha0 : 1 ≤ ka) (hb0 : 1 ≤ kb) :
    (∀ j, j < 2 ^ S → FF.cj (2 ^ S) (dgt u) (dgt v) j < 2 ^ 43 ∧ ∃ r, floatBits .quo .f64 (FF.BF R1 S (sqs S (plc u v ((kb + 15) / 16))) j).2 (FF.fi (2 ^ (S + 1))) = some r ∧ FF.fin r ∧ ((FF.cj (2 ^ S) (dgt u) (dgt v) j : Nat) : Rat) - 1 / 4 ≤ FF.fv r ∧ FF.fv r ≤ ((FF.cj (2 ^ S) (dgt u) (dgt v) j : Nat) : Rat) + 1 / 4) ∧
    dg (2 ^ S) (FF.cj (2 ^ S) (dgt u) (dgt v)) (4 * L) = u * v := by
  have hu0 : ∀ i, (ka + 15) / 16 ≤ i → dgt u i = 0 := fun i hi => dgt_zero hu hi
  have hv0 : ∀ i, (kb + 15) / 16 ≤ i → dgt v i = 0 := fun i hi => dgt_zero hv hi
  constructor
  · intro j hj
    have h1024 : 2 ^ S ≤ 1024 := Nat.pow_le_pow_right (n := 2) (by decide) hS
    have hcj := FF.cj_lt (j := j) h1024 (dgt_le u) (dgt_le v)
    have hf := FF.fft_im hS (x := plc u v ((kb + 15) / 16)) (a := dgt u) (b := dgt v) (fun i _ => plc_ok u v _ i hv0) (dgt_le u) (dgt_le v) hu0 hv0 hd hn j hj
    obtain ⟨r, h1, h2, h3, h4⟩ := FF.quot_ok hf.1.2 hS hcj hf.2.1 hf.2.2
    exact ⟨hcj, r, h1, h2, h3, h4⟩
  · rw [dg_eq, FF.sums_mul (P := 65536)]
    · have e1 : FF.ns (2 ^ S) (fun i => 65536 ^ i * dgt u i) = u := by
        have := FF.digits_sum 65536 u (2 ^ S)
        rw [Nat.mod_eq_of_lt] at this
        · exact this
        · refine Nat.lt_of_lt_of_le hu ?_
          rw [show (65536 : Nat) = 2 ^ 16 from rfl, ← Nat.pow_mul]
          exact Nat.pow_le_pow_right (by decide) (by omega)
      have e2 : FF.ns (2 ^ S) (fun i => 65536 ^ i * dgt v i) = v := by
        have := FF.digits_sum 65536 v (2 ^ S)
        rw [Nat.mod_eq_of_lt] at this
        · exact this
        · refine Nat.lt_of_lt_of_le hv ?_
          rw [show (65536 : Nat) = 2 ^ 16 from rfl, ← Nat.pow_mul]
          exact Nat.pow_le_pow_right (by decide) (by omega)
      rw [e1, e2]
    · intro i k h
      by_cases h1 : (ka + 15) / 16 ≤ i
      · rw [hu0 i h1, Nat.zero_mul]
      · rw [hv0 k (by omega), Nat.mul_zero]
attribute [local go_sem] run_store_complex

set_option maxHeartbeats 4000000 in
set_option maxRecDepth 100000 in
/-- byTransform: the product of two factors, by the transform. -/
theorem byTransform_any (a1 a2 : Addr) (la lb ca cb ka kb : Nat) (xs ys : List Nat) (w : World) (hla : xs.length = la) (hlb : ys.length = lb) (hba : la ≤ 128) (hbb : lb ≤ 128) (hca : la ≤ ca) (hcb : lb ≤ cb) (hra : Rd .u64 w (some a1) xs) (hrb : Rd .u64 w (some a2) ys) (bx : Bd xs) (bY : Bd ys)
    (hka : BitsIs (val xs) ka) (hkb : BitsIs (val ys) kb) (hk1 : 1969 ≤ ka) (hk2 : 1969 ≤ kb) (hk : ka + kb ≤ 8193) (hT : Trig w) :
    Calls Tryz.prog 220 #[.slice (some a1) la ca, .slice (some a2) lb cb] w fun e w' => ∃ v ws, e = .returned v ∧ own64 w' w.heap.size v ws ∧ ws.length = la + lb ∧ Bd ws ∧ val ws = val xs * val ys ∧ Below w.heap.size w w' := by
  obtain ⟨bb1, ob1, he1⟩ := hra.isAt (show 0 < xs.length from by
    have h1 := val_lt bx
    have h2 : ¬ xs.length = 0 := by
      intro h0
      rw [h0] at h1
      rcases hka with ⟨_, h⟩ | ⟨_, h, _⟩
      · omega
      · have : 2 ^ 1 ≤ 2 ^ (ka - 1) := Nat.pow_le_pow_right (by decide) (by omega)
        omega
    omega)
  obtain ⟨bb2, ob2, he2⟩ := hrb.isAt (show 0 < ys.length from by
    have h1 := val_lt bY
    have h2 : ¬ ys.length = 0 := by
      intro h0
      rw [h0] at h1
      rcases hkb with ⟨_, h⟩ | ⟨_, h, _⟩
      · omega
      · have : 2 ^ 1 ≤ 2 ^ (kb - 1) := Nat.pow_le_pow_right (by decide) (by omega)
        omega
    omega)
  cases he1; cases he2
  have hfit : ∀ {zs : List Nat} {k : Nat}, Bd zs → BitsIs (val zs) k → k ≤ 64 * zs.length := by
    intro zs k bz hz
    have h1 := val_lt bz
    rw [pow_64] at h1
    rcases hz with ⟨_, h⟩ | ⟨h0, h, _⟩
    · omega
    · apply Decidable.byContradiction; intro hn
      have : 2 ^ (64 * zs.length) ≤ 2 ^ (k - 1) := Nat.pow_le_pow_right (by decide) (by omega)
      omega
  have hfa := hfit bx hka
  have hfb := hfit bY hkb
  obtain ⟨da, hda⟩ : ∃ da, (ka + 15) / 16 = da := ⟨_, rfl⟩
  obtain ⟨db, hdb⟩ : ∃ db, (kb + 15) / 16 = db := ⟨_, rfl⟩
  have hdal : da ≤ 4 * la := by omega
  have hdbl : db ≤ 4 * lb := by omega
  have hdd : da + db ≤ 514 := by omega
  have hda1 : 124 ≤ da := by omega
  have hdb1 : 124 ≤ db := by omega
  have hxv := bits_lt hka
  have hyv := bits_lt hkb
  have HG := Lib.hid (fun (S : Nat) (hS : S ≤ 10) (hn : (ka + 15) / 16 + (kb + 15) / 16 ≤ 2 ^ S + 1) => gather_ok (S := S) (L := la + lb) hxv hyv hS (by omega) hn (by omega) (by omega) (by omega))
  have HV0 : Hid (∀ j, db ≤ j → dgt (val ys) j = 0) := fun j hj => dgt_zero hyv (by omega)
  have HU0 : Hid (∀ j, da ≤ j → dgt (val xs) j = 0) := fun j hj => dgt_zero hxv (by omega)
  rw [hda, hdb] at HG
  have HDA := Lib.hid (fun W (hr : Rd .u64 W (some ⟨bb1, ob1, none⟩) xs) => digits_eq (some ⟨bb1, ob1, none⟩) la ca ka xs W hla (by omega) hca hr bx hka da hda)
  have HDB := Lib.hid (fun W (hr : Rd .u64 W (some ⟨bb2, ob2, none⟩) ys) => digits_eq (some ⟨bb2, ob2, none⟩) lb cb kb ys W hlb (by omega) hcb hr bY hkb db hdb)
  have HRA := Lib.hid hra
  have HRB := Lib.hid hrb
  have HTr := Lib.hid hT
  have HLA := Lib.hid (And.intro hla hlb)
  have HBX := Lib.hid (And.intro bx bY)
  clear hka hkb hk1 hk2 hk hfa hfb hda hdb hxv hyv hfit hra hrb hT hla hlb bx bY
  have hm : (da : Int) + (db : Int) - 1 = ((da + db - 1 : Nat) : Int) := by omega
  go_enter Tryz.func220, Tryz.ntmps220
  go_wp2_with fail
  refine (HDA.out _ HRA.out).mono ?_
  rintro e w1 ⟨rfl, rfl⟩
  go_wp2_with fail
  refine (HDB.out _ HRB.out).mono ?_
  rintro e w1 ⟨rfl, rfl⟩
  go_wp2_with fail
  refine (width_any (da + db - 1) _ (by omega) (by omega)).mono ?_
  rintro e w1 ⟨⟨S, hS, rfl, hn1, hn2⟩, rfl⟩
  obtain ⟨n, hn⟩ : ∃ n, n = 2 ^ S := ⟨_, rfl⟩
  have hn10 : n ≤ 1024 := by rw [hn]; exact Nat.pow_le_pow_right (n := 2) (by decide) hS
  have hS8 : 8 ≤ S := by
    apply Decidable.byContradiction; intro hc
    have : 2 ^ S ≤ 2 ^ 7 := Nat.pow_le_pow_right (by decide) (by omega)
    omega
  have hdn : da + db ≤ n + 1 := by omega
  rw [← hn]
  have HN := Lib.hid hn
  clear hn hn1 hn2
  go_wp2_with (at_make; refine wpl_makeC rfl _ _ rfl _ _ _ _ n rfl rfl rfl rfl (by omega) ?_)
  intro w1 cur hB hA hbl hlt
  have HB := Lib.hid hB
  have HA := Lib.hid hA
  have HBL := Lib.hid hbl
  clear hB hA hbl
  go_wp2_with fail
  refine (HDA.out _ (HRA.out.below HBL.out)).mono ?_
  rintro e w2 ⟨rfl, rfl⟩
  go_wp2
  go_loopw [21] (fun iv wr => ∃ (i : Nat) (cur' : Array Value), iv = .int .i64 i ∧ i ≤ da ∧ Hid (CBlk wr w.heap.size cur') ∧ Hid (CA cur' n (fun q => if q < i then (FF.fi (dgt (val xs) q), 0) else (0, 0))) ∧ Hid (Below w.heap.size w wr)) (fun iv _ => da - (intOf iv).toNat)
  case atStart => exact ⟨0, cur, rfl, Nat.zero_le _, HB, HA.out.congr fun q _ => by rw [if_neg (by omega)], HBL⟩
  case round =>
    clear HB HA HBL
    obtain ⟨i, cur', rfl, hi, HB, HA, HBL⟩ := hrel
    by_cases hil : i < da
    · have hin : i < n := by omega
      have hdg := digit_any bb1 ob1 la ca i xs wr HLA.out.1 (HRA.out.below HBL.out) HBX.out.1 (by omega) (by omega)
      rw [dgt_at HBX.out.1 (by rw [HLA.out.1]; omega)] at hdg
      have HDG := Lib.hid hdg
      have c1 : wr.cell? ⟨w.heap.size, i, none⟩ = some (.complex .f64 0 0) := by
        rw [HB.out.cell, HA.out.2 i hin]; dsimp only; rw [if_neg (by omega)]; rfl
      have f1 : wr.frozen? ⟨w.heap.size, i, none⟩ = false := HB.out.free i
      clear hdg
      generalize hy : FF.fi (dgt (val xs) i) = y at *
      have HY := Lib.hid hy
      clear hy
      go_wp2_with fail
      refine HDG.out.mono ?_
      rintro e w2 ⟨rfl, rfl⟩
      go_wp2
      go_roundw
      case rel =>
        refine ⟨i + 1, _, by go_num, by omega, HB.out.set i (.complex .f64 y 0), ?_, HBL.out.setCell (p := ⟨w.heap.size, i, none⟩) (Nat.le_refl _) _⟩
        refine (HA.out.set i (y, 0)).congr fun q hq => ?_
        by_cases h1 : q = i
        · subst h1; rw [if_pos rfl, if_pos (by omega), HY.out]
        · rw [if_neg h1]
          by_cases h2 : q < i
          · rw [if_pos h2, if_pos (by omega)]
          · rw [if_neg h2, if_neg (by omega)]
      case measure => simp [intOf]; omega
    · obtain rfl : i = da := by omega
      have HA1 : Hid (CA cur' n (fun q => (FF.fi (dgt (val xs) q), 0))) := HA.out.congr fun q _ => by
        by_cases h : q < i
        · rw [if_pos h]
        · rw [if_neg h, HU0.out q (by omega)]; rfl
      clear HA
      go_wp2_with fail
      refine (HDB.out _ (HRB.out.below HBL.out)).mono ?_
      rintro e w2 ⟨rfl, rfl⟩
      go_wp2
      clear hil hdal
      go_loopw [34] (fun iv w3 => ∃ (k : Nat) (cur3 : Array Value), iv = .int .i64 k ∧ k ≤ db ∧ Hid (CBlk w3 w.heap.size cur3) ∧ Hid (CA cur3 n (fun q => if q < k then FF.fadd (FF.fi (dgt (val xs) q), 0) (0, FF.fi (dgt (val ys) q)) else (FF.fi (dgt (val xs) q), 0))) ∧ Hid (Below w.heap.size w w3)) (fun iv _ => db - (intOf iv).toNat)
      case atStart => exact ⟨0, cur', rfl, Nat.zero_le _, HB, HA1.out.congr fun q _ => by rw [if_neg (by omega)], HBL⟩
      case round =>
        clear HB HA1 HBL
        obtain ⟨k, cur3, rfl, hk, HB, HA, HBL⟩ := hrel
        by_cases hkl : k < db
        · have hkn : k < n := by omega
          have hdg : ∀ W, Below w.heap.size w W → _ := fun W hW => digit_any bb2 ob2 lb cb k ys W HLA.out.2 (HRB.out.below hW) HBX.out.2 (by omega) (by omega)
          rw [dgt_at HBX.out.2 (by rw [HLA.out.2]; omega)] at hdg
          have HDG := Lib.hid hdg
          have hpv := (FF.place_val (dgt_le (val xs) k) (dgt_le (val ys) k)).1
          have c1 : wr.cell? ⟨w.heap.size, k, none⟩ = some (.complex .f64 (FF.fi (dgt (val xs) k)) 0) := by
            rw [HB.out.cell, HA.out.2 k hkn]; dsimp only; rw [if_neg (by omega)]; rfl
          have f1 : wr.frozen? ⟨w.heap.size, k, none⟩ = false := HB.out.free k
          clear hdg
          generalize hs : FF.fadd (FF.fi (dgt (val xs) k), 0) (0, FF.fi (dgt (val ys) k)) = s at *
          have hs2 := hs
          generalize FF.fi (dgt (val ys) k) = y at hpv HDG hs
          generalize FF.fi (dgt (val xs) k) = x at hpv c1 hs
          have e1 : ∀ w, (binOp .add 232 (.complex .f64 x 0) (.complex .f64 0 y)).run Tryz.prog w = .ok (.complex .f64 s.1 s.2) w := fun w => run_complex_sum w .add (Or.inl rfl) _ _ _ _ _ _ _ _ hpv
          have hb1 : (k : Int) < n := by omega
          have HS2 := Lib.hid hs2
          clear hs hpv hs2
          go_wp2
          go_region_with (go_at_call 237; refine (HDG.out _ ?_).mono ?_; first | exact HBL.out | exact HBL.out.drew; rintro e w2 ⟨rfl, rfl⟩)
          all_goals
            (go_wp2
             go_roundw
             case rel =>
               refine ⟨k + 1, _, by go_num, by omega, HB.out.set k (.complex .f64 s.1 s.2), ?_, (HBL.out.setCell (p := ⟨w.heap.size, k, none⟩) (Nat.le_refl _) _).drew⟩
               refine (HA.out.set k s).congr fun q hq => ?_
               by_cases h1 : q = k
               · subst h1; rw [if_pos rfl, if_pos (by omega)]; exact HS2.out.symm
               · rw [if_neg h1]
                 by_cases h2 : q < k
                 · rw [if_pos h2, if_pos (by omega)]
                 · rw [if_neg h2, if_neg (by omega)]
             case measure => simp [intOf]; omega)
        · obtain rfl : k = db := by omega
          have HA2 : Hid (CA cur3 n (plc (val xs) (val ys) k)) := HA.out
          clear HA
          have HDN := Lib.hid hdn
          obtain ⟨nr, hnr⟩ : ∃ nr, nr = 2 ^ (S - 1) := ⟨_, rfl⟩
          have hnr9 : nr ≤ 512 := by rw [hnr]; exact Nat.pow_le_pow_right (n := 2) (by decide) (show S - 1 ≤ 9 by omega)
          have HUR := Lib.hid (fun W (hW : Below w.heap.size w W) => unitRoots_any S n nr W hS8 hS HN.out hnr (HTr.out.below hW))
          have HNR := Lib.hid hnr
          clear hnr
          go_wp2_with fail
          refine (HUR.out _ HBL.out).mono ?_
          rintro e w2 ⟨rfl, curr, hBr, hAr, hbl2⟩
          have hwr : w.heap.size < wr.heap.size := HB.out.lt
          have HB2 : Hid (CBlk w2 w.heap.size cur3) := HB.out.chg (Chg.of_below hbl2) (by omega)
          have HBr := Lib.hid hBr
          have HAr := Lib.hid hAr
          have HBL2 := Lib.hid (HBL.out.trans (hbl2.mono (Nat.le_of_lt hwr)))
          clear hBr hAr hbl2
          have hne : wr.heap.size ≠ w.heap.size := by omega
          generalize wr.heap.size = gr at *
          go_wp2_with fail
          refine (there_any w.heap.size gr n n nr nr S cur3 curr (plc (val xs) (val ys) k) _ HB2.out HBr.out hne (by omega) hS HN.out HNR.out (Nat.le_refl _) (Nat.le_refl _) HA2.out HAr.out (plc_good _ _ _ _ HV0.out)).mono ?_
          rintro e w3 ⟨rfl, cur4, hB4, hA4, hC4⟩
          have HB4 := Lib.hid hB4
          have HA4 := Lib.hid hA4
          have HBr4 : Hid (CBlk w3 gr curr) := HBr.out.chg hC4 (fun e => hne e)
          have HBL4 := Lib.hid (HBL2.out.trans (hC4.below (by have := HB2.out.lt; omega) (fun k hk => by omega)))
          have HSQ := Lib.hid (sqs_ok (S := S) (f := plc (val xs) (val ys) k) hS (plc_good _ _ _ _ HV0.out))
          clear hB4 hA4 hC4
          generalize hP : plc (val xs) (val ys) k = P at *
          have HP := Lib.hid hP
          clear hP hm hdn hdd hk hkl hdbl hdb1 hda1 hi
          go_wp2
          go_loopw [56] (fun iv w5 => ∃ (j : Nat) (cur5 : Array Value), iv = .int .i64 j ∧ j ≤ n ∧ Hid (CBlk w5 w.heap.size cur5) ∧ Hid (CA cur5 n (fun q => if q < j then sqs S P q else FF.TF FF.R0 S P q)) ∧ Hid (Chg (fun k => k = w.heap.size) w3 w5)) (fun iv _ => n - (intOf iv).toNat)
          case atStart => exact ⟨0, cur4, rfl, Nat.zero_le _, HB4, HA4.out.congr fun q _ => by rw [if_neg (by omega)], Chg.refl _ _⟩
          case round =>
            clear HB HA2 HBL HB2 HA4
            obtain ⟨j, cur5, rfl, hj, HB5, HA5, HC5⟩ := hrel
            by_cases hjn : j < n
            · have hsq := (HSQ.out j (by rw [← HN.out]; exact hjn)).1
              have c1 : wr.cell? ⟨w.heap.size, j, none⟩ = some (.complex .f64 (FF.TF FF.R0 S P j).1 (FF.TF FF.R0 S P j).2) := by
                rw [HB5.out.cell, HA5.out.2 j hjn]; dsimp only; rw [if_neg (by omega)]; rfl
              have f1 : wr.frozen? ⟨w.heap.size, j, none⟩ = false := HB5.out.free j
              generalize FF.TF FF.R0 S P j = x at hsq c1
              generalize hs : sqs S P j = s at hsq
              have HS := Lib.hid hs
              have e1 : ∀ w, (binOp .mul 232 (.complex .f64 x.1 x.2) (.complex .f64 x.1 x.2)).run Tryz.prog w = .ok (.complex .f64 s.1 s.2) w := fun w => run_complex_mul w _ _ _ _ _ _ _ hsq
              clear hs hsq
              go_wp2
              go_roundw
              case rel =>
                refine ⟨j + 1, _, by go_num, by omega, HB5.out.set j (.complex .f64 s.1 s.2), ?_, HC5.out.setCell (p := ⟨w.heap.size, j, none⟩) rfl _⟩
                refine (HA5.out.set j s).congr fun q hq => ?_
                by_cases h1 : q = j
                · subst h1; rw [if_pos rfl, if_pos (by omega)]; exact HS.out.symm
                · rw [if_neg h1]
                  by_cases h2 : q < j
                  · rw [if_pos h2, if_pos (by omega)]
                  · rw [if_neg h2, if_neg (by omega)]
              case measure => simp [intOf]; omega
            · obtain rfl : j = n := by omega
              have HA6 : Hid (CA cur5 j (sqs S P)) := HA5.out.congr fun q hq => by rw [if_pos hq]
              have HBr6 : Hid (CBlk wr gr curr) := HBr4.out.chg HC5.out (fun e => hne e)
              have HBL6 : Hid (Below w.heap.size w wr) := HBL4.out.trans (HC5.out.below (by have := HB4.out.lt; omega) (fun k hk => by omega))
              clear HA5
              go_wp2_with fail
              refine (back_any w.heap.size gr j j nr nr S cur5 curr (sqs S P) _ HB5.out HBr6.out hne (by omega) hS HN.out HNR.out (Nat.le_refl _) (Nat.le_refl _) HA6.out HAr.out (fun p hp => (HSQ.out p (by rw [← HN.out]; exact hp)).2)).mono ?_
              rintro e w7 ⟨rfl, cur7, hB7, hA7, hC7⟩
              have HB7 := Lib.hid hB7
              have HA7 := Lib.hid hA7
              have HBL7 := Lib.hid (HBL6.out.trans (hC7.below (by have := HB5.out.lt; omega) (fun k hk => by omega)))
              clear hB7 hA7 hC7
              obtain ⟨L, hL⟩ : ∃ L, L = la + lb := ⟨_, rfl⟩
              have hL1 : (la : Int) + (lb : Int) = (L : Int) := by omega
              have hL2 : L ≤ 1024 := by omega
              have HGG := HG.out S hS (by rw [← HN.out]; exact HDN.out)
              rw [← hL, ← HN.out] at HGG
              have HGa := Lib.hid HGG
              have HLL := Lib.hid hL
              clear HGG hL HG
              go_wp2_with fail
              refine (gathered_any w.heap.size j j L S cur7 (FF.BF R1 S (sqs S P)) (FF.cj j (dgt (val xs)) (dgt (val ys))) _ HB7.out HA7.out hS HN.out (Nat.le_refl _) hL2 HGa.out.1).mono ?_
              rintro e w8 ⟨v, ws, cy, rfl, ho, hwl, hwb, hwv, hbl8⟩
              have hbl9 := HBL7.out.trans (hbl8.mono (by have := HB7.out.lt; omega))
              have hfin : val ws = val xs * val ys := by
                rw [HGa.out.2] at hwv
                have hlt1 := val_lt HBX.out.1
                have hlt2 := val_lt HBX.out.2
                rw [HLA.out.1] at hlt1
                rw [HLA.out.2] at hlt2
                have hlt3 : val xs * val ys < 65536 ^ (4 * L) := by
                  have := Nat.mul_lt_mul_of_lt_of_le hlt1 (Nat.le_of_lt hlt2) (Nat.pow_pos (by decide))
                  rw [HLL.out, Nat.pow_mul, show (65536 : Nat) ^ 4 = 18446744073709551616 from rfl, Nat.pow_add]
                  exact this
                cases cy with
                | zero => rw [Nat.mul_zero, Nat.add_zero] at hwv; exact hwv
                | succ c => rw [Nat.mul_add, Nat.mul_one] at hwv; omega
              have HO8 := Lib.hid (owns_base (B' := w.heap.size) ho (by have := HB7.out.lt; omega))
              have HF8 := Lib.hid (And.intro hwl (And.intro hwb (And.intro hfin hbl9)))
              clear ho hwl hwb hwv hbl8 hbl9 hfin
              go_wp2
              go_ret
              exact ⟨_, ws, rfl, HO8.out, by rw [HF8.out.1, HLL.out], HF8.out.2.1, HF8.out.2.2.1, HF8.out.2.2.2⟩

set_option exponentiation.threshold 10000 in
theorem bits_ge {xs : List Nat} {k : Nat} (hk : BitsIs (val xs) k) (h : 32 ≤ fl xs) : 1969 ≤ k := by
  have h1 : ¬ val xs < 18446744073709551616 ^ 31 := by
    intro hn
    have htop := (fl_spec xs).2.2 (by omega)
    have hl := (fl_spec xs).1
    have hv := val_at xs (fl xs - 1) (by omega)
    have hp : 18446744073709551616 ^ 31 ≤ 18446744073709551616 ^ (fl xs - 1) := Nat.pow_le_pow_right (by decide) (by omega)
    have hm : 18446744073709551616 ^ (fl xs - 1) * 1 ≤ 18446744073709551616 ^ (fl xs - 1) * (at0 xs (fl xs - 1) + 18446744073709551616 * val (xs.drop (fl xs - 1 + 1))) := Nat.mul_le_mul_left _ (by omega)
    omega
  rw [pow_64] at h1
  apply Decidable.byContradiction; intro hn
  have := bits_lt hk
  have : 2 ^ k ≤ 2 ^ (64 * 31) := Nat.pow_le_pow_right (by decide) (by omega)
  omega

set_option maxHeartbeats 1000000 in
set_option maxRecDepth 100000 in
theorem mul_large (a b : Option Addr) (la lb ca cb : Nat) (xs ys : List Nat) (w : World) (hla : xs.length = la) (hlb : ys.length = lb) (hba : la ≤ 1048576) (hbb : lb ≤ 1048576) (hca : la ≤ ca) (hcb : lb ≤ cb)
    (hra : Rd .u64 w a xs) (hrb : Rd .u64 w b ys) (bx : Bd xs) (bY : Bd ys) (hm1 : 32 ≤ fl xs) (hm2 : 32 ≤ fl ys) (hT : Trig w) :
    Calls Tryz.prog 195 #[.slice a la ca, .slice b lb cb] w (NumPost (fl xs ≤ 128 ∧ fl ys ≤ 128) (val xs * val ys) w) := by
  have HT := Lib.hid hT
  have hfa := (fl_spec xs).1
  have hfb := (fl_spec ys).1
  go_enter Tryz.func195, Tryz.ntmps195
  go_wp2_with fail
  refine (both_any a b la lb ca cb xs ys _ hla hlb (by omega) (by omega) hca hcb hra hrb).mono ?_
  rintro e w1 ⟨hor, rfl⟩
  rcases hor with ⟨h1, h2, a', c', b', d', rfl, fa, fb⟩ | ⟨h1, rfl⟩
  · have hra' := fa.rd hra hfa
    have hrb' := fb.rd hrb hfb
    have hca' := (fa.cap hca (by omega)).1
    have hcb' := (fb.cap hcb (by omega)).1
    have hold := fb.old hrb hfb
    have HFA := Lib.hid fa
    have HFB := Lib.hid fb
    have HOLD := Lib.hid hold
    clear fa fb hold hra hrb
    have e1 : Hid ((xs.take (fl xs)).length = fl xs) := fm_length xs
    have e2 : Hid ((ys.take (fl ys)).length = fl ys) := fm_length ys
    have V1 : Hid (val (xs.take (fl xs)) = val xs) := fm_val xs
    have V2 : Hid (val (ys.take (fl ys)) = val ys) := fm_val ys
    have F1 : Hid (fl (xs.take (fl xs)) = fl xs) := by show fl (fm xs) = fl xs; rw [fl_of_cn (fm_cn xs), fm_length]
    have F2 : Hid (fl (ys.take (fl ys)) = fl ys) := by show fl (fm ys) = fl ys; rw [fl_of_cn (fm_cn ys), fm_length]
    go_wp2_with fail
    refine (bits_any a' (fl xs) c' (xs.take (fl xs)) _ e1.out (by omega) hca' hra' (bx.take _)).mono ?_
    rintro e w1 ⟨⟨k1, rfl, hk1, hk1b⟩, rfl⟩
    rw [V1.out] at hk1
    rw [F1.out] at hk1b
    have HK1 := Lib.hid hk1
    clear hk1
    go_wp2_with fail
    refine (bits_any b' (fl ys) d' (ys.take (fl ys)) _ e2.out (by omega) hcb' hrb' (bY.take _)).mono ?_
    rintro e w1 ⟨⟨k2, rfl, hk2, hk2b⟩, rfl⟩
    rw [V2.out] at hk2
    rw [F2.out] at hk2b
    have HK2 := Lib.hid hk2
    clear hk2
    by_cases hbig : 8193 < k1 + k2
    · have hq : decide ((8193 : Int) < (k1 : Int) + (k2 : Int)) = true := by simp; omega
      have hge : Hid (18446744073709551616 ^ 128 ≤ val xs * val ys) := bits_big HK1.out HK2.out hbig (by omega) (by omega)
      go_wp2
      go_ret2
      exact ⟨Below.refl _ _, .inl ⟨fun h => by have := hge.out; omega, rfl⟩⟩
    · have hq : decide ((8193 : Int) < (k1 : Int) + (k2 : Int)) = false := by simp; omega
      have hq2 : decide (min (fl xs : Int) (fl ys : Int) < 32) = false := by rw [decide_eq_false_iff_not]; omega
      have hb1 := bits_ge HK1.out hm1
      have hb2 := bits_ge HK2.out hm2
      have HKK := Lib.hid (And.intro hb1 hb2)
      clear hb1 hb2
      obtain ⟨g1, o1, rfl⟩ := hra'.isAt (by have := e1.out; omega)
      obtain ⟨g2, o2, rfl⟩ := hrb'.isAt (by have := e2.out; omega)
      have HBT := Lib.hid (byTransform_any ⟨g1, o1, none⟩ ⟨g2, o2, none⟩ (fl xs) (fl ys) c' d' k1 k2 (xs.take (fl xs)) (ys.take (fl ys)) _ e1.out e2.out h1 h2 hca' hcb' hra' hrb' (bx.take _) (bY.take _) (by rw [V1.out]; exact HK1.out) (by rw [V2.out]; exact HK2.out) HKK.out.1 HKK.out.2 (by omega) HT.out)
      go_wp2_with fail
      refine HBT.out.mono ?_
      rintro e w1 ⟨v, ws, rfl, hown, hlen, hbw, hval, hbl⟩
      rw [V1.out, V2.out] at hval
      obtain ⟨av, cv, rfl, hrv⟩ := own64.form hown
      have hroom := own64.room hown
      have HL := Lib.hid hlen
      have hl2 : ws.length ≤ 256 := by omega
      have HO := Lib.hid hown
      have HV := Lib.hid hval
      have HBW := Lib.hid hbw
      clear hlen hown hval hbw
      go_wp2_with fail
      refine (one_any av ws.length cv ws _ rfl (by omega) hroom.1 hrv).mono ?_
      rintro e w2 ⟨hor, rfl⟩
      have hnum := num_fm HBW.out
      rw [HV.out] at hnum
      rcases hor with ⟨h3, av', cv', rfl, g1, g2⟩ | ⟨h3, rfl⟩
      · have G1 := Lib.hid g1
        have G2 := Lib.hid g2
        have HNU := Lib.hid hnum
        clear g1 g2 hnum
        go_wp2
        go_ret2
        refine ⟨hbl, .inr ⟨⟨h1, h2⟩, ?_, _, fm ws, rfl, own64_take HO.out (fl_spec ws).1 G1.out G2.out, HNU.out⟩⟩
        rw [← HNU.out.len_le, fm_length]; exact h3
      · have HNU := Lib.hid hnum
        clear hnum
        go_wp2
        go_ret2
        refine ⟨hbl, .inl ⟨fun h => ?_, rfl⟩⟩
        have := HNU.out.len_le.2 h.2
        rw [fm_length] at this
        omega
  · go_wp2
    go_ret2
    exact ⟨Below.refl _ _, .inl ⟨fun h => by omega, rfl⟩⟩


/-- nat.Mul, of whatever factors. -/
theorem mul_any (a b : Option Addr) (la lb ca cb : Nat) (xs ys : List Nat) (w : World) (hla : xs.length = la) (hlb : ys.length = lb) (hba : la ≤ 1048576) (hbb : lb ≤ 1048576) (hca : la ≤ ca) (hcb : lb ≤ cb)
    (hra : Rd .u64 w a xs) (hrb : Rd .u64 w b ys) (bx : Bd xs) (bY : Bd ys) (hT : Trig w) :
    Calls Tryz.prog 195 #[.slice a la ca, .slice b lb cb] w (NumPost (fl xs ≤ 128 ∧ fl ys ≤ 128) (val xs * val ys) w) := by
  by_cases h1 : fl xs < 32
  · exact mul_small a b la lb ca cb xs ys w hla hlb hba hbb hca hcb hra hrb bx bY (Or.inl h1)
  · by_cases h2 : fl ys < 32
    · exact mul_small a b la lb ca cb xs ys w hla hlb hba hbb hca hcb hra hrb bx bY (Or.inr h2)
    · exact mul_large a b la lb ca cb xs ys w hla hlb hba hbb hca hcb hra hrb bx bY (by omega) (by omega) hT
end Go.Proofs.YtaookoejdnkkoaaGreatDoor
