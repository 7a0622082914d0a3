import Derived.Test.YtaookoejdnkkoaaDoorQ14
import Derived.Test.YtaookoejdnkkoaaDoorQNmH
import Derived.Test.YtaookoejdnkkoaaDoorQCoMN
import Derived.Laws.EntriesVeiled
import Derived.Shelf.Strings.SlTrimAscii
import Derived.Test.YtaookoejdnkkoaaDoorQ15
namespace Go.Proofs.YtaookoejdnkkoaaDoor
open Go.RowKit

/-! The reference's words: what data and signatures tell. -/
/-- What reading data gives. -/
def RdP (en l : List Nat) (w : World) (e : Ending) (w' : World) : Prop :=
  Below w.heap.size w w' ∧ ∃ a c k0 b, e = .returned (.tuple #[.slice a (List.length b) c, .int .i64 k0]) ∧ own8 w' w.heap.size (.slice a (List.length b) c) b ∧ RdT en l (if k0 = 0 then 0 else 91) b ∧ b.length ≤ l.length ∧ b.length ≤ c ∧ Rd .u8 w' a b ∧ (a = none → c = 0) ∧ c ≤ 9223372036854775807
theorem rdp_hex {l : List Nat} {w w' : World} {e : Ending} (h : UnhexPost l w e w') : RdP hexW l w e w' := by
  obtain ⟨a, c, k, b, rfl, hb, ho, ht, h1, h2, h3, h4, h5⟩ := h.opens
  exact ⟨hb, a, c, k, b, rfl, ho, .inl ⟨rfl, k, ht, rfl⟩, h1, h2, h3, h4, h5⟩
theorem rdp_64 {l : List Nat} {w w' : World} {e : Ending} (h : Un64Post l w e w') : RdP b64W l w e w' := by
  obtain ⟨a, c, k, b, rfl, hb, ho, ht, h1, h2, h3, h4, h5⟩ := h.opens
  exact ⟨hb, a, c, k, b, rfl, ho, .inr ⟨rfl, k, ht, rfl⟩, h1, h2, h3, h4, h5⟩
/-- What reading a signature's text gives. -/
def SigP (l : List Nat) (w : World) (e : Ending) (w' : World) : Prop :=
  Below w.heap.size w w' ∧ ∃ a c k p b, e = .returned (.tuple #[.string (strN p), .slice a (List.length b) c, .int .i64 k]) ∧ own8 w' w.heap.size (.slice a (List.length b) c) b ∧ SigTells l k p b ∧ B8 p ∧ b.length ≤ l.length ∧ Rd .u8 w' a b ∧ b.length ≤ c ∧ (a = none → c = 0) ∧ c ≤ 9223372036854775807
theorem SigP.none {l : List Nat} {w w' : World} {k : Int} (hb : Below w.heap.size w w') (h : SigTells l k [] []) : SigP l w (.returned (.tuple #[.string ⟨#[]⟩, .slice none 0 0, .int .i64 k])) w' :=
  ⟨hb, Option.none, 0, k, [], [], rfl, World.ownsRow_nil _ _ _ _, h, (fun x hx => by cases hx), Nat.zero_le _, (fun j hj => absurd hj (by simp)), Nat.zero_le _, (fun _ => rfl), by decide⟩
theorem sig_no {l f d : List Nat} (hs : l = f ++ 58 :: d) (hf : 58 ∉ f) (h1 : f.map loA ≠ sigW ++ 45 :: hexW) (h2 : f.map loA ≠ sigW ++ 45 :: b64W) : ∀ f' e d', ¬ NamF l f' sigW e d' := fun f' e d' h => by
  obtain ⟨rfl, -⟩ := first_one (hs.symm.trans h.1) hf h.2.1
  rcases h.2.2.2 with rfl | rfl
  · exact h1 h.2.2.1
  · exact h2 h.2.2.1
theorem cut_colon {l f d : List Nat} (h : l = f ++ 58 :: d) : l.take (l.length - d.length) = f ++ [58] := by
  subst h
  rw [show f ++ 58 :: d = (f ++ [58]) ++ d by simp, List.length_append, Nat.add_sub_cancel, List.take_left]
set_option maxHeartbeats 1000000 in
set_option maxRecDepth 100000 in
theorem p_isalg (s : ByteArray) (n : Nat) (w : World) (hn : s.size = n) (hbig : n ≤ 1099511627776) :
    Calls Tryd.prog 28 #[.string s] w fun e w' => ((plainL (bsN s) ∧ e = .returned (.bool true)) ∨ (¬ plainL (bsN s) ∧ e = .returned (.bool false))) ∧ Below w.heap.size w w' := by
  have hl : (bsN s).length = n := by rw [bsN_len, hn]
  by_cases h0 : bsN s = []
  · have hq : (s.toList == []) = true := by rw [beq_lit]; exact decide_eq_true (by rw [h0]; rfl)
    have HP : Hid (¬ plainL (bsN s)) := fun h => h.1 h0
    clear h0 hl
    go_enter Tryd.func28, Tryd.ntmps28
    go_wp2
    go_ret
    exact ⟨.inr ⟨HP.out, rfl⟩, Below.refl _ _⟩
  · have hq : (s.toList == []) = false := by rw [beq_lit]; exact decide_eq_false h0
    have h1 : s.data.toList ≠ [] := fun e => h0 (by unfold bsN; rw [e]; rfl)
    have hT := trim_plain s h1
    obtain ⟨X, hX⟩ : ∃ X : ByteArray, X = ⟨(Lib.trimS s.data.toList ldS.data.toList).toArray⟩ := ⟨_, rfl⟩
    have hXq : (X.toList == []) = decide (Lib.trimS s.data.toList ldS.data.toList = []) := by
      rw [ByteArray.toList_eq, hX]
      cases Lib.trimS s.data.toList ldS.data.toList <;> simp
    have hc := Any.strings_Trim_laid Tryd.lays160 (by kernel_rfl) s ldS
    have HC : Hid (∀ W, Calls Tryd.prog 43 #[.string s, .string ldS] W fun e w' => e = .returned (.string X) ∧ Below W.heap.size W w') := fun W => by
      have := hc W (by omega) (by decide) (ascii_of_all (by decide))
      rw [← hX] at this
      exact this
    clear hc hX h0 h1 hl
    by_cases hp : plainL (bsN s)
    · have hx : (X.toList == []) = true := by rw [hXq]; exact decide_eq_true (hT.2 hp)
      have HP := Lib.hid hp
      clear hXq hT hp
      go_enter Tryd.func28, Tryd.ntmps28
      go_wp2_with fail
      refine (HC.out _).mono ?_
      rintro e w1 ⟨rfl, hb⟩
      go_wp2
      go_ret
      exact ⟨.inl ⟨HP.out, rfl⟩, hb⟩
    · have hx : (X.toList == []) = false := by rw [hXq]; exact decide_eq_false (fun h => hp (hT.1 h))
      have HP := Lib.hid hp
      clear hXq hT hp
      go_enter Tryd.func28, Tryd.ntmps28
      go_wp2_with fail
      refine (HC.out _).mono ?_
      rintro e w1 ⟨rfl, hb⟩
      go_wp2
      go_ret
      exact ⟨.inr ⟨HP.out, rfl⟩, hb⟩
/-- The block in which all encodings stand. -/
def EB (w : World) (g : Nat) : Prop := w.cell? ⟨g, 0, none⟩ = some (.string ⟨#[104, 101, 120]⟩) ∧ w.cell? ⟨g, 1, none⟩ = some (Value.func (.func 64) #[] #[]) ∧ w.cell? ⟨g, 2, none⟩ = some (.string ⟨#[98, 97, 115, 101, 54, 52]⟩) ∧ w.cell? ⟨g, 3, none⟩ = some (Value.func (.func 65) #[] #[])
set_option maxHeartbeats 1000000 in
set_option maxRecDepth 100000 in
theorem p_encodings (w : World) :
    Calls Tryd.prog 52 #[] w fun e w' => e = .returned (.slice (some ⟨w.heap.size, 0, none⟩) 2 2) ∧ EB w' w.heap.size ∧ Below w.heap.size w w' := by
  go_enter Tryd.func52, Tryd.ntmps52
  go_wp2
  go_ret
  exact ⟨rfl, ⟨World.cell?_alloc_at _ _ _ _ rfl, World.cell?_alloc_at _ _ _ _ rfl, World.cell?_alloc_at _ _ _ _ rfl, World.cell?_alloc_at _ _ _ _ rfl⟩, (Below.refl _ _).alloc (Nat.le_refl _) _⟩
theorem EB.below {w w' : World} {g : Nat} (h : EB w g) (hb : Below w.heap.size w w') : EB w' g := ⟨below_cell hb _ _ h.1, below_cell hb _ _ h.2.1, below_cell hb _ _ h.2.2.1, below_cell hb _ _ h.2.2.2⟩
/-- Which encoding a name tells. -/
def EncOf (q : List Nat) (e : Ending) : Prop :=
  (q = hexW ∧ e = .returned (.tuple #[.agg #[.string hexS, (Value.func (.func 64) #[] #[])], .bool true])) ∨ (q = b64W ∧ e = .returned (.tuple #[.agg #[.string b64S, (Value.func (.func 65) #[] #[])], .bool true])) ∨ (q ≠ hexW ∧ q ≠ b64W ∧ e = .returned (.tuple #[.agg #[.string ⟨#[]⟩, .nilFunc], .bool false]))
/-- A result that stands in a block known whole, and one beside it. -/
theorem results_cbT {fn : Func} {p q : Tmp} {T : TypeId} {fs : Array Field} (h : fn.results = #[.cell p T, .tmp q]) {tmps : Array Value} {w : World} {g : Nat} {t : TypeId} {cs : List Value} {k : Value}
    (hp : tmps.getD p undef = .pointer (some ⟨g, 0, none⟩)) (hq : tmps.getD q undef = k) (hg : CB w t g cs) (hu : Tryd.prog.underlying T = some (.struct fs)) (hi : (Tryd.prog.info? T).map (·.size) = some cs.length) :
    (results fn tmps).run Tryd.prog w = .ok (.tuple #[.agg cs.toArray, k]) w := by
  rw [results_cell_tmp h, hp, hq]
  simp [asAddr, Result.andThen, run_loadVar_row (P := Tryd.prog) w g t T cs.toArray (0, 0) (.struct fs) hg hu rfl (by rw [hi]; simp)]
theorem results_cb1 {fn : Func} {p : Tmp} {T : TypeId} {fs : Array Field} (h : fn.results = #[.cell p T]) {tmps : Array Value} {w : World} {g : Nat} {t : TypeId} {cs : List Value}
    (hp : tmps.getD p undef = .pointer (some ⟨g, 0, none⟩)) (hg : CB w t g cs) (hu : Tryd.prog.underlying T = some (.struct fs)) (hi : (Tryd.prog.info? T).map (·.size) = some cs.length) :
    (results fn tmps).run Tryd.prog w = .ok (.agg cs.toArray) w :=
  results_cell_row h tmps _ g _ cs.toArray (0, 0) (.struct fs) hp hg hu rfl (by rw [hi]; simp)
theorem infoEnc : (Tryd.prog.info? 63).map (·.size) = some 2 := by kernel_rfl
set_option maxHeartbeats 1000000 in
set_option maxRecDepth 100000 in
theorem p_encodingOf (s : ByteArray) (w : World) :
    Calls Tryd.prog 41 #[.string s] w fun e w' => EncOf (bsN s) e ∧ Below w.heap.size w w' := by
  go_enter Tryd.func41, Tryd.ntmps41
  go_wp2_with fail
  refine (p_encodings _).mono ?_
  rintro e w1 ⟨rfl, he, hb⟩
  obtain ⟨g, hg⟩ : ∃ g, g = (w.alloc (.cells #[.string ⟨#[]⟩, .nilFunc] 63)).heap.size := ⟨_, rfl⟩
  rw [← hg] at he ⊢
  have hz0 : (w.alloc (.cells #[.string ⟨#[]⟩, .nilFunc] 63)).heap[w.heap.size]? = some (.cells #[.string ⟨#[]⟩, .nilFunc] 63 (0, 0)) := heap_new _ _
  have hz1 : w1.heap[w.heap.size]? = some (.cells #[.string ⟨#[]⟩, .nilFunc] 63 (0, 0)) := by rw [hb.block _ (by simp)]; exact hz0
  have HZ := Lib.hid hz1
  have HE := Lib.hid he
  have HB := Lib.hid (((Below.refl w.heap.size w).alloc (Nat.le_refl _) (.cells #[.string ⟨#[]⟩, .nilFunc] 63)).trans (hb.mono (by simp)))
  have HG : Hid (w.heap.size < w1.heap.size) := lt_of_block hz1
  clear hg hz0 hz1 he hb
  go_wp2
  go_loopw [8] (fun iv wr => ∃ j : Nat, j ≤ 2 ∧ iv = .int .i64 (j : Nat) ∧ Hid (0 < j → bsN s ≠ hexW) ∧ Hid (1 < j → bsN s ≠ b64W) ∧ Hid (EB wr g) ∧ Hid (wr.heap[w.heap.size]? = some (.cells #[.string ⟨#[]⟩, .nilFunc] 63 (0, 0))) ∧ Hid (Below w.heap.size w wr)) (fun iv _ => 2 - (intOf iv).toNat)
  case atStart => exact ⟨0, by omega, rfl, (by intro h; omega), (by intro h; omega), HE.out, HZ.out, HB.out⟩
  case round =>
    obtain ⟨j, hj, rfl, H1, H2, HE, HZ, HB⟩ := hrel
    obtain ⟨k0, k1, k2, k3⟩ := HE.out
    have hzlt := lt_of_block HZ.out
    have z0 : wr.cell? ⟨w.heap.size, 0, none⟩ = some (.string ⟨#[]⟩) := by simp [World.cell?, HZ.out]
    have z1 : wr.cell? ⟨w.heap.size, 1, none⟩ = some .nilFunc := by simp [World.cell?, HZ.out]
    have f0 : wr.frozen? ⟨w.heap.size, 0, none⟩ = false := by simp [World.frozen?, HZ.out]
    have f1 : wr.frozen? ⟨w.heap.size, 1, none⟩ = false := by simp [World.frozen?, HZ.out]
    rcases (show j = 0 ∨ j = 1 ∨ j = 2 by omega) with rfl | rfl | rfl
    · by_cases hq : bsN s = hexW
      · have q1 : (s.toList == [104, 101, 120]) = true := by rw [beq_lit]; exact decide_eq_true hq
        have q2 : (([104, 101, 120] : List UInt8) == s.toList) = true := by rw [BEq.comm]; exact q1
        have HQ := Lib.hid hq
        clear hq
        go_wp2
        refine bodyPost_ret (results_cbT rfl rfl rfl ((((show CB wr 63 w.heap.size [.string ⟨#[]⟩, .nilFunc] from HZ.out).set 0 (.string ⟨#[104, 101, 120]⟩)).set 1 (.func (.func 64) #[] #[])).alloc _) Tryd.underlying63 infoEnc) rfl ?_
        exact ⟨.inl ⟨HQ.out, rfl⟩, ((HB.out.setCell (p := ⟨w.heap.size, 0, none⟩) (Nat.le_refl _) _).setCell (p := ⟨w.heap.size, 1, none⟩) (Nat.le_refl _) _).alloc (by simp; omega) _⟩
      · have q1 : (s.toList == [104, 101, 120]) = false := by rw [beq_lit]; exact decide_eq_false hq
        have q2 : (([104, 101, 120] : List UInt8) == s.toList) = false := by rw [BEq.comm]; exact q1
        have HQ := Lib.hid hq
        clear hq
        go_wp2
        go_roundw
        case rel => exact ⟨1, by omega, rfl, (fun _ => HQ.out), (fun h => by omega), HE.out.below ((Below.refl _ _).alloc (Nat.le_refl _) _), ((((Below.refl _ wr).alloc (Nat.le_refl _) _).block _ hzlt).trans HZ.out), HB.out.alloc (by omega) _⟩
        case measure => simp [intOf]
    · by_cases hq : bsN s = b64W
      · have q1 : (s.toList == [98, 97, 115, 101, 54, 52]) = true := by rw [beq_lit]; exact decide_eq_true hq
        have q2 : (([98, 97, 115, 101, 54, 52] : List UInt8) == s.toList) = true := by rw [BEq.comm]; exact q1
        have HQ := Lib.hid hq
        clear hq
        go_wp2
        refine bodyPost_ret (results_cbT rfl rfl rfl ((((show CB wr 63 w.heap.size [.string ⟨#[]⟩, .nilFunc] from HZ.out).set 0 (.string ⟨#[98, 97, 115, 101, 54, 52]⟩)).set 1 (.func (.func 65) #[] #[])).alloc _) Tryd.underlying63 infoEnc) rfl ?_
        exact ⟨.inr (.inl ⟨HQ.out, rfl⟩), ((HB.out.setCell (p := ⟨w.heap.size, 0, none⟩) (Nat.le_refl _) _).setCell (p := ⟨w.heap.size, 1, none⟩) (Nat.le_refl _) _).alloc (by simp; omega) _⟩
      · have q1 : (s.toList == [98, 97, 115, 101, 54, 52]) = false := by rw [beq_lit]; exact decide_eq_false hq
        have q2 : (([98, 97, 115, 101, 54, 52] : List UInt8) == s.toList) = false := by rw [BEq.comm]; exact q1
        have HQ := Lib.hid hq
        clear hq
        go_wp2
        go_roundw
        case rel => exact ⟨2, by omega, rfl, (fun _ => H1.out (by decide)), (fun _ => HQ.out), HE.out.below ((Below.refl _ _).alloc (Nat.le_refl _) _), ((((Below.refl _ wr).alloc (Nat.le_refl _) _).block _ hzlt).trans HZ.out), HB.out.alloc (by omega) _⟩
        case measure => simp [intOf]
    · go_wp2
      refine bodyPost_ret (results_cbT rfl rfl rfl (((show CB wr 63 w.heap.size [.string ⟨#[]⟩, .nilFunc] from HZ.out).set 0 (.string ⟨#[]⟩)).set 1 .nilFunc) Tryd.underlying63 infoEnc) rfl ?_
      exact ⟨.inr (.inr ⟨H1.out (by decide), H2.out (by decide), rfl⟩), (HB.out.setCell (p := ⟨w.heap.size, 0, none⟩) (Nat.le_refl _) _).setCell (p := ⟨w.heap.size, 1, none⟩) (Nat.le_refl _) _⟩

/-! The program's words: a text taken apart. -/
/-- A text cut at its first colon. -/
def CutT (s : ByteArray) (e : Ending) : Prop :=
  (∃ f d, bsN s = f ++ 58 :: d ∧ 58 ∉ f ∧ e = .returned (.tuple #[.string (strN f), .string (strN d), .bool true])) ∨ (58 ∉ bsN s ∧ e = .returned (.tuple #[.string s, .string ⟨#[]⟩, .bool false]))
set_option maxHeartbeats 1000000 in
set_option maxRecDepth 100000 in
theorem p_cutL (s : ByteArray) (n : Nat) (w : World) (hn : s.size = n) (hbig : n ≤ 1099511627776) :
    Calls Tryd.prog 49 #[.string s, .string ⟨#[58]⟩] w fun e w' => CutT s e ∧ Below w.heap.size w w' := by
  have hl : (bsN s).length = n := by rw [bsN_len, hn]
  rcases index_list s.data.toList 58 with ⟨h1, h2⟩ | ⟨i, h1, h2, h3, h4⟩
  · have HN : Hid (58 ∉ bsN s) := h2
    clear h2 hl
    go_enter Tryd.func49, Tryd.ntmps49
    go_wp2_with fail
    refine (Tryd.stringslite_Index_one s 58 _).mono ?_
    rintro e w1 ⟨rfl, rfl⟩
    rw [h1]
    clear h1
    go_wp2
    go_ret3
    exact ⟨.inr ⟨HN.out, rfl⟩, Below.refl _ _⟩
  · have hin : i < n := by rw [← hn]; exact h2
    have HE1 : Hid (s.extract 0 i = strN ((bsN s).take i)) := by show _ = _; rw [ext_str]; simp
    have HE2 : Hid (s.extract (i + 1) n = strN ((bsN s).drop (i + 1))) := by show _ = _; rw [ext_str, List.take_of_length_le (by rw [List.length_drop, hl]; omega)]
    obtain ⟨f, hf⟩ : ∃ f, f = (bsN s).take i := ⟨_, rfl⟩
    obtain ⟨d, hd⟩ : ∃ d, d = (bsN s).drop (i + 1) := ⟨_, rfl⟩
    have HS : Hid (bsN s = f ++ 58 :: d) := by show _ = _; rw [hf, hd]; exact h3
    have HN : Hid (58 ∉ f) := by show 58 ∉ _; rw [hf]; exact h4
    rw [← hf] at HE1
    rw [← hd] at HE2
    clear hf hd
    have c1 : (0 : Int) ≤ (i : Int) := by omega
    have c2 : (i : Int) ≤ (n : Int) := by omega
    have c3 : (0 : Int) ≤ (i : Int) + 1 := by omega
    have c4 : (i : Int) + 1 ≤ (n : Int) := by omega
    have c5 : IntKind.i64.wrap ((i : Int) + 1) = (i : Int) + 1 := by rw [show ((i : Int) + 1) = ((i + 1 : Nat) : Int) by omega]; exact wrap_i64_nat _ (by omega)
    clear h2 h3 h4 hl
    go_enter Tryd.func49, Tryd.ntmps49
    go_wp2_with fail
    refine (Tryd.stringslite_Index_one s 58 _).mono ?_
    rintro e w1 ⟨rfl, rfl⟩
    rw [h1]
    clear h1
    go_wp2
    go_region_with (fail)
    all_goals
      go_simp
      rw [HE1.out, HE2.out]
      go_wp2
      go_ret3
      refine ⟨.inl ⟨f, d, HS.out, HN.out, (by go_simp)⟩, (Below.refl _ _).drew⟩
set_option maxHeartbeats 1000000 in
set_option maxRecDepth 100000 in
theorem p_cut (s : ByteArray) (n : Nat) (w : World) (hn : s.size = n) (hbig : n ≤ 1099511627776) :
    Calls Tryd.prog 39 #[.string s, .string ⟨#[58]⟩] w fun e w' => CutT s e ∧ Below w.heap.size w w' := by
  go_enter Tryd.func39, Tryd.ntmps39
  go_wp2_with fail
  refine (p_cutL s n _ hn hbig).mono ?_
  rintro e w1 ⟨⟨f, d, hs, hf, rfl⟩ | ⟨hno, rfl⟩, hb⟩
  · have HS := Lib.hid hs
    have HF := Lib.hid hf
    clear hs hf
    go_wp2
    go_ret3
    exact ⟨.inl ⟨f, d, HS.out, HF.out, rfl⟩, hb⟩
  · have HN := Lib.hid hno
    clear hno
    go_wp2
    go_ret3
    exact ⟨.inr ⟨HN.out, rfl⟩, hb⟩
end Go.Proofs.YtaookoejdnkkoaaDoor
