import Derived.Test.YtaookoejdnkkoaaGreatDoorQ14
import Derived.Test.YtaookoejdnkkoaaGreatDoorQNmH
import Derived.Test.YtaookoejdnkkoaaGreatDoorQCoMN
import Derived.Laws.EntriesVeiled
import Derived.Shelf.Strings.SlTrimAscii
import Derived.Test.YtaookoejdnkkoaaGreatDoorQ15
namespace Go.Proofs.YtaookoejdnkkoaaGreatDoor
open Go.RowKit

/-! The reference's words: what data and signatures tell. -/
/-- What reading data gives. -/
def RdP (en l : List Nat) (w : World) (e : Ending) (w' : World) : Prop :=
  Below w.heap.size w w' ∧ ∃ a c k0 b, e = .returned (.tuple #[.slice a (List.length b) c, .int .i64 k0]) ∧ own8 w' w.heap.size (.slice a (List.length b) c) b ∧ RdT en l (if k0 = 0 then 0 else 91) b ∧ b.length ≤ l.length ∧ b.length ≤ c ∧ Rd .u8 w' a b ∧ (a = none → c = 0) ∧ c ≤ 9223372036854775807
theorem rdp_hex {l : List Nat} {w w' : World} {e : Ending} (h : UnhexPost l w e w') : RdP hexW l w e w' := by
  obtain ⟨a, c, k, b, rfl, hb, ho, ht, h1, h2, h3, h4, h5⟩ := h.opens
  exact ⟨hb, a, c, k, b, rfl, ho, .inl ⟨rfl, k, ht, rfl⟩, h1, h2, h3, h4, h5⟩
theorem rdp_64 {l : List Nat} {w w' : World} {e : Ending} (h : Un64Post l w e w') : RdP b64W l w e w' := by
  obtain ⟨a, c, k, b, rfl, hb, ho, ht, h1, h2, h3, h4, h5⟩ := h.opens
  exact ⟨hb, a, c, k, b, rfl, ho, .inr ⟨rfl, k, ht, rfl⟩, h1, h2, h3, h4, h5⟩
set_option maxHeartbeats 1000000 in
set_option maxRecDepth 100000 in
theorem r9read_hex (s : ByteArray) (n : Nat) (w : World) (hn : s.size = n) (hbig : n ≤ 1099511627776) :
    Calls Tryz.prog 41 #[.string hexS, .string s] w (RdP hexW (bsN s) w) := by
  have hx : (hexS.toList == [104, 101, 120]) = true := by rw [beq_lit]; decide
  go_enter Tryz.func41, Tryz.ntmps41
  go_wp2_with fail
  refine (runhex_any s n _ hn hbig).mono ?_
  intro e w1 hp
  obtain ⟨hb, a, c, k, b, rfl, h⟩ := rdp_hex hp
  have H := Lib.hid h
  clear h hp
  go_wp2
  go_ret2
  exact ⟨hb, a, c, k, b, rfl, H.out⟩
set_option maxHeartbeats 1000000 in
set_option maxRecDepth 100000 in
theorem r9read_64 (s : ByteArray) (n : Nat) (w : World) (hn : s.size = n) (hbig : n ≤ 1099511627776) :
    Calls Tryz.prog 41 #[.string b64S, .string s] w (RdP b64W (bsN s) w) := by
  have hx : (b64S.toList == [104, 101, 120]) = false := by rw [beq_lit]; decide
  go_enter Tryz.func41, Tryz.ntmps41
  go_wp2_with fail
  refine (run64_any s n _ hn hbig).mono ?_
  intro e w1 hp
  obtain ⟨hb, a, c, k, b, rfl, h⟩ := rdp_64 hp
  have H := Lib.hid h
  clear h hp
  go_wp2
  go_ret2
  exact ⟨hb, a, c, k, b, rfl, H.out⟩
/-- What reading a signature's text gives. -/
def SigP (l : List Nat) (w : World) (e : Ending) (w' : World) : Prop :=
  Below w.heap.size w w' ∧ ∃ a c k p b, e = .returned (.tuple #[.string (strN p), .slice a (List.length b) c, .int .i64 k]) ∧ own8 w' w.heap.size (.slice a (List.length b) c) b ∧ SigTells l k p b ∧ B8 p ∧ b.length ≤ l.length ∧ Rd .u8 w' a b ∧ b.length ≤ c ∧ (a = none → c = 0) ∧ c ≤ 9223372036854775807
theorem SigP.none {l : List Nat} {w w' : World} {k : Int} (hb : Below w.heap.size w w') (h : SigTells l k [] []) : SigP l w (.returned (.tuple #[.string ⟨#[]⟩, .slice none 0 0, .int .i64 k])) w' :=
  ⟨hb, Option.none, 0, k, [], [], rfl, World.ownsRow_nil _ _ _ _, h, (fun x hx => by cases hx), Nat.zero_le _, (fun j hj => absurd hj (by simp)), Nat.zero_le _, (fun _ => rfl), by decide⟩
theorem sig_no {l f d : List Nat} (hs : l = f ++ 58 :: d) (hf : 58 ∉ f) (h1 : f.map loA ≠ sigW ++ 45 :: hexW) (h2 : f.map loA ≠ sigW ++ 45 :: b64W) : ∀ f' e d', ¬ NamF l f' sigW e d' := fun f' e d' h => by
  obtain ⟨rfl, -⟩ := first_one (hs.symm.trans h.1) hf h.2.1
  rcases h.2.2.2 with rfl | rfl
  · exact h1 h.2.2.1
  · exact h2 h.2.2.1
theorem cut_colon {l f d : List Nat} (h : l = f ++ 58 :: d) : l.take (l.length - d.length) = f ++ [58] := by
  subst h
  rw [show f ++ 58 :: d = (f ++ [58]) ++ d by simp, List.length_append, Nat.add_sub_cancel, List.take_left]
set_option maxHeartbeats 1000000 in
set_option maxRecDepth 100000 in
theorem r9sig (s : ByteArray) (n : Nat) (w : World) (hn : s.size = n) (hbig : n ≤ 1099511627776) :
    Calls Tryz.prog 21 #[.string s] w (SigP (bsN s) w) := by
  have hl : (bsN s).length = n := by rw [bsN_len, hn]
  have h8 := bsN_8 s
  have HL := Lib.hid hl
  have H8 := Lib.hid h8
  clear hl h8
  by_cases hlim : 65536 < n
  · have hq : decide ((65536 : Int) < (n : Int)) = true := decide_eq_true (by omega)
    go_enter Tryz.func21, Tryz.ntmps21
    go_wp2
    go_ret3
    exact SigP.none (Below.refl _ _) (.inl ⟨by rw [HL.out]; exact hlim, rfl, rfl, rfl⟩)
  · have hq : decide ((65536 : Int) < (n : Int)) = false := decide_eq_false (by omega)
    have HLIM : Hid ((bsN s).length ≤ 65536) := by show _ ≤ _; rw [HL.out]; omega
    clear hlim
    go_enter Tryz.func21, Tryz.ntmps21
    go_wp2_with fail
    refine (r9front s n _ hn hbig).mono ?_
    rintro e w1 ⟨⟨f, d, hs, hf, rfl⟩ | ⟨hno, rfl⟩, hb1⟩
    · obtain ⟨h8f, h8d⟩ := b8_split H8.out hs
      have HF8 : Hid (B8 (f.map loA)) := b8_loA h8f
      have HFF : Hid (B8 (f ++ [58])) := B8.app h8f (fun x hx => by simp at hx; omega)
      have hlen : f.length + d.length + 1 = n := by have := HL.out; rw [hs] at this; simp at this; omega
      have HD : Hid (bsN (strN d) = d) := bsN_strN h8d
      have hdl : (strN d).size = d.length := strN_size d
      have HCUT : Hid (s.extract 0 (n - d.length) = strN (f ++ [58])) := by
        show _ = _
        rw [ext_str, List.drop_zero, Nat.sub_zero, ← cut_colon hs, HL.out]
      obtain ⟨D, hD⟩ : ∃ D, D = strN d := ⟨_, rfl⟩
      rw [← hD] at HD hdl
      rw [← hD]
      obtain ⟨m, hm⟩ : ∃ m, m = d.length := ⟨_, rfl⟩
      rw [← hm] at hdl HCUT hlen
      obtain ⟨q, hqn⟩ : ∃ q, q = n - m := ⟨_, rfl⟩
      rw [← hqn] at HCUT
      have e1 : (n : Int) - (m : Int) = (q : Int) := by omega
      have e2 : IntKind.i64.wrap (q : Int) = (q : Int) := wrap_i64_nat _ (by omega)
      have hqle : q ≤ n := by omega
      have HS := Lib.hid hs
      have HF := Lib.hid hf
      have HB := Lib.hid hb1
      have HM := Lib.hid hm
      have HDM : Hid (d.length ≤ (bsN s).length) := by show _ ≤ _; rw [HL.out]; omega
      have hmb : m ≤ 1099511627776 := by omega
      clear hs hf hb1 h8f h8d hm hlen hD hqn
      have HB0 : Hid (w.heap.size ≤ w1.heap.size) := HB.out.size
      by_cases h1 : f.map loA = sigW ++ 45 :: hexW
      · obtain ⟨F, hF⟩ : ∃ F, F = strN (f.map loA) := ⟨_, rfl⟩
        have hFB : bsN F = f.map loA := by rw [hF]; exact bsN_strN HF8.out
        have y1 : (F.toList == [115, 105, 103, 45, 114, 115, 97, 45, 115, 104, 97, 49, 45, 104, 101, 120]) = true := by rw [beq_lit, hFB, h1]; decide
        have y2 : (F.toList == [115, 105, 103, 45, 114, 115, 97, 45, 115, 104, 97, 49, 45, 98, 97, 115, 101, 54, 52]) = false := by rw [beq_lit, hFB, h1]; decide
        have hFs : F.size = 16 := by rw [← bsN_len, hFB, h1]; rfl
        have x1 : F.extract 13 16 = hexS := by rw [ext_str, hFB, h1]; rfl
        have H1 := Lib.hid h1
        rw [← hF]
        clear h1 hF hFB
        go_wp2_with fail
        refine (r9read_hex D m _ hdl hmb).mono ?_
        rw [HD.out]
        rintro e w2 ⟨hb2, a, c, k0, b, rfl, ho, ht, h4, h5, h6, h7, h8⟩
        have HB := Lib.hid (HB.out.trans (hb2.mono HB.out.size))
        have HO := Lib.hid ho
        have HT := Lib.hid ht
        have H6 := Lib.hid h6
        have H7 := Lib.hid h7
        have hm' := HDM.out
        have H4 : Hid (b.length ≤ (bsN s).length) := Nat.le_trans h4 hm'
        clear hb2 ho ht h6 h7 h4 hm'
        by_cases hk : k0 = 0
        · subst hk
          rw [if_pos rfl] at HT
          go_wp2
          rw [HCUT.out]
          go_ret3
          exact ⟨HB.out, a, c, 0, f ++ [58], b, rfl, owns_base HO.out HB0.out, .inr (.inr ⟨HLIM.out, f, _, d, ⟨HS.out, HF.out, H1.out, .inl rfl⟩, HT.out, (if_pos rfl).symm⟩), HFF.out, H4.out, H6.out, h5, H7.out, h8⟩
        · rw [if_neg hk] at HT
          have hkk : (k0 != 0) = true := by simp [hk]
          have hbn : b = [] := by
            rcases HT.out.kinds with h | ⟨_, h⟩
            · cases h
            · exact h
          subst hbn
          have HKK := Lib.hid hk
          clear hk
          go_wp2
          go_ret3
          exact SigP.none HB.out (.inr (.inr ⟨HLIM.out, f, _, d, ⟨HS.out, HF.out, H1.out, .inl rfl⟩, HT.out, (if_neg (by decide)).symm⟩))
      · by_cases h2 : f.map loA = sigW ++ 45 :: b64W
        · obtain ⟨F, hF⟩ : ∃ F, F = strN (f.map loA) := ⟨_, rfl⟩
          have hFB : bsN F = f.map loA := by rw [hF]; exact bsN_strN HF8.out
          have y1 : (F.toList == [115, 105, 103, 45, 114, 115, 97, 45, 115, 104, 97, 49, 45, 104, 101, 120]) = false := by rw [beq_lit, hFB, h2]; decide
          have y2 : (F.toList == [115, 105, 103, 45, 114, 115, 97, 45, 115, 104, 97, 49, 45, 98, 97, 115, 101, 54, 52]) = true := by rw [beq_lit, hFB, h2]; decide
          have hFs : F.size = 19 := by rw [← bsN_len, hFB, h2]; rfl
          have x1 : F.extract 13 19 = b64S := by rw [ext_str, hFB, h2]; rfl
          have H1 := Lib.hid h2
          rw [← hF]
          clear h2 hF hFB
          go_wp2_with fail
          refine (r9read_64 D m _ hdl hmb).mono ?_
          rw [HD.out]
          rintro e w2 ⟨hb2, a, c, k0, b, rfl, ho, ht, h4, h5, h6, h7, h8⟩
          have HB := Lib.hid (HB.out.trans (hb2.mono HB.out.size))
          have HO := Lib.hid ho
          have HT := Lib.hid ht
          have H6 := Lib.hid h6
          have H7 := Lib.hid h7
          have hm' := HDM.out
          have H4 : Hid (b.length ≤ (bsN s).length) := Nat.le_trans h4 hm'
          clear hb2 ho ht h6 h7 h4 hm'
          by_cases hk : k0 = 0
          · subst hk
            rw [if_pos rfl] at HT
            go_wp2
            rw [HCUT.out]
            go_ret3
            exact ⟨HB.out, a, c, 0, f ++ [58], b, rfl, owns_base HO.out HB0.out, .inr (.inr ⟨HLIM.out, f, _, d, ⟨HS.out, HF.out, H1.out, .inr rfl⟩, HT.out, (if_pos rfl).symm⟩), HFF.out, H4.out, H6.out, h5, H7.out, h8⟩
          · rw [if_neg hk] at HT
            have hkk : (k0 != 0) = true := by simp [hk]
            have hbn : b = [] := by
              rcases HT.out.kinds with h | ⟨_, h⟩
              · cases h
              · exact h
            subst hbn
            have HKK := Lib.hid hk
            clear hk
            go_wp2
            go_ret3
            exact SigP.none HB.out (.inr (.inr ⟨HLIM.out, f, _, d, ⟨HS.out, HF.out, H1.out, .inr rfl⟩, HT.out, (if_neg (by decide)).symm⟩))
        · obtain ⟨F, hF⟩ : ∃ F, F = strN (f.map loA) := ⟨_, rfl⟩
          have hFB : bsN F = f.map loA := by rw [hF]; exact bsN_strN HF8.out
          have y1 : (F.toList == [115, 105, 103, 45, 114, 115, 97, 45, 115, 104, 97, 49, 45, 104, 101, 120]) = false := by rw [beq_lit, hFB]; exact decide_eq_false h1
          have y2 : (F.toList == [115, 105, 103, 45, 114, 115, 97, 45, 115, 104, 97, 49, 45, 98, 97, 115, 101, 54, 52]) = false := by rw [beq_lit, hFB]; exact decide_eq_false h2
          have HN := Lib.hid (sig_no HS.out HF.out h1 h2)
          rw [← hF]
          clear h1 h2 hF hFB
          go_wp2
          go_ret3
          exact SigP.none HB.out (.inr (.inl ⟨HLIM.out, HN.out, rfl, rfl, rfl⟩))
    · have HN := Lib.hid hno
      have HB := Lib.hid hb1
      clear hno hb1
      go_wp2
      go_ret3
      exact SigP.none HB.out (.inr (.inl ⟨HLIM.out, fun f e d h => absurd h.nocol HN.out, rfl, rfl, rfl⟩))

/-! The program's words: is it an algorithm, which encoding is it? -/
set_option maxHeartbeats 1000000 in
set_option maxRecDepth 100000 in
theorem p_isalg (s : ByteArray) (n : Nat) (w : World) (hn : s.size = n) (hbig : n ≤ 1099511627776) :
    Calls Tryz.prog 38 #[.string s] w fun e w' => ((plainL (bsN s) ∧ e = .returned (.bool true)) ∨ (¬ plainL (bsN s) ∧ e = .returned (.bool false))) ∧ Below w.heap.size w w' := by
  have hl : (bsN s).length = n := by rw [bsN_len, hn]
  by_cases h0 : bsN s = []
  · have hq : (s.toList == []) = true := by rw [beq_lit]; exact decide_eq_true (by rw [h0]; rfl)
    have HP : Hid (¬ plainL (bsN s)) := fun h => h.1 h0
    clear h0 hl
    go_enter Tryz.func38, Tryz.ntmps38
    go_wp2
    go_ret
    exact ⟨.inr ⟨HP.out, rfl⟩, Below.refl _ _⟩
  · have hq : (s.toList == []) = false := by rw [beq_lit]; exact decide_eq_false h0
    have h1 : s.data.toList ≠ [] := fun e => h0 (by unfold bsN; rw [e]; rfl)
    have hT := trim_plain s h1
    obtain ⟨X, hX⟩ : ∃ X : ByteArray, X = ⟨(Lib.trimS s.data.toList ldS.data.toList).toArray⟩ := ⟨_, rfl⟩
    have hXq : (X.toList == []) = decide (Lib.trimS s.data.toList ldS.data.toList = []) := by
      rw [ByteArray.toList_eq, hX]
      cases Lib.trimS s.data.toList ldS.data.toList <;> simp
    have hc := Any.strings_Trim_laid Tryz.lays160 (by kernel_rfl) s ldS
    have HC : Hid (∀ W, Calls Tryz.prog 85 #[.string s, .string ldS] W fun e w' => e = .returned (.string X) ∧ Below W.heap.size W w') := fun W => by
      have := hc W (by omega) (by decide) (ascii_of_all (by decide))
      rw [← hX] at this
      exact this
    clear hc hX h0 h1 hl
    by_cases hp : plainL (bsN s)
    · have hx : (X.toList == []) = true := by rw [hXq]; exact decide_eq_true (hT.2 hp)
      have HP := Lib.hid hp
      clear hXq hT hp
      go_enter Tryz.func38, Tryz.ntmps38
      go_wp2_with fail
      refine (HC.out _).mono ?_
      rintro e w1 ⟨rfl, hb⟩
      go_wp2
      go_ret
      exact ⟨.inl ⟨HP.out, rfl⟩, hb⟩
    · have hx : (X.toList == []) = false := by rw [hXq]; exact decide_eq_false (fun h => hp (hT.1 h))
      have HP := Lib.hid hp
      clear hXq hT hp
      go_enter Tryz.func38, Tryz.ntmps38
      go_wp2_with fail
      refine (HC.out _).mono ?_
      rintro e w1 ⟨rfl, hb⟩
      go_wp2
      go_ret
      exact ⟨.inr ⟨HP.out, rfl⟩, hb⟩
/-- The block in which all encodings stand. -/
def EB (w : World) (g : Nat) : Prop := w.cell? ⟨g, 0, none⟩ = some (.string ⟨#[104, 101, 120]⟩) ∧ w.cell? ⟨g, 1, none⟩ = some (Value.func (.func 175) #[] #[]) ∧ w.cell? ⟨g, 2, none⟩ = some (.string ⟨#[98, 97, 115, 101, 54, 52]⟩) ∧ w.cell? ⟨g, 3, none⟩ = some (Value.func (.func 176) #[] #[])
set_option maxHeartbeats 1000000 in
set_option maxRecDepth 100000 in
theorem p_encodings (w : World) :
    Calls Tryz.prog 133 #[] w fun e w' => e = .returned (.slice (some ⟨w.heap.size, 0, none⟩) 2 2) ∧ EB w' w.heap.size ∧ Below w.heap.size w w' := by
  go_enter Tryz.func133, Tryz.ntmps133
  go_wp2
  go_ret
  exact ⟨rfl, ⟨World.cell?_alloc_at _ _ _ _ rfl, World.cell?_alloc_at _ _ _ _ rfl, World.cell?_alloc_at _ _ _ _ rfl, World.cell?_alloc_at _ _ _ _ rfl⟩, (Below.refl _ _).alloc (Nat.le_refl _) _⟩
theorem EB.below {w w' : World} {g : Nat} (h : EB w g) (hb : Below w.heap.size w w') : EB w' g := ⟨below_cell hb _ _ h.1, below_cell hb _ _ h.2.1, below_cell hb _ _ h.2.2.1, below_cell hb _ _ h.2.2.2⟩
/-- Which encoding a name tells. -/
def EncOf (q : List Nat) (e : Ending) : Prop :=
  (q = hexW ∧ e = .returned (.tuple #[.agg #[.string hexS, (Value.func (.func 175) #[] #[])], .bool true])) ∨ (q = b64W ∧ e = .returned (.tuple #[.agg #[.string b64S, (Value.func (.func 176) #[] #[])], .bool true])) ∨ (q ≠ hexW ∧ q ≠ b64W ∧ e = .returned (.tuple #[.agg #[.string ⟨#[]⟩, .nilFunc], .bool false]))
/-- A result that stands in a block known whole, and one beside it. -/
theorem results_cbT {fn : Func} {p q : Tmp} {T : TypeId} {fs : Array Field} (h : fn.results = #[.cell p T, .tmp q]) {tmps : Array Value} {w : World} {g : Nat} {t : TypeId} {cs : List Value} {k : Value}
    (hp : tmps.getD p undef = .pointer (some ⟨g, 0, none⟩)) (hq : tmps.getD q undef = k) (hg : CB w t g cs) (hu : Tryz.prog.underlying T = some (.struct fs)) (hi : (Tryz.prog.info? T).map (·.size) = some cs.length) :
    (results fn tmps).run Tryz.prog w = .ok (.tuple #[.agg cs.toArray, k]) w := by
  rw [results_cell_tmp h, hp, hq]
  simp [asAddr, Result.andThen, run_loadVar_row (P := Tryz.prog) w g t T cs.toArray (0, 0) (.struct fs) hg hu rfl (by rw [hi]; simp)]
theorem results_cb1 {fn : Func} {p : Tmp} {T : TypeId} {fs : Array Field} (h : fn.results = #[.cell p T]) {tmps : Array Value} {w : World} {g : Nat} {t : TypeId} {cs : List Value}
    (hp : tmps.getD p undef = .pointer (some ⟨g, 0, none⟩)) (hg : CB w t g cs) (hu : Tryz.prog.underlying T = some (.struct fs)) (hi : (Tryz.prog.info? T).map (·.size) = some cs.length) :
    (results fn tmps).run Tryz.prog w = .ok (.agg cs.toArray) w :=
  results_cell_row h tmps _ g _ cs.toArray (0, 0) (.struct fs) hp hg hu rfl (by rw [hi]; simp)
theorem infoEnc : (Tryz.prog.info? 60).map (·.size) = some 2 := by kernel_rfl
set_option maxHeartbeats 1000000 in
set_option maxRecDepth 100000 in
theorem p_encodingOf (s : ByteArray) (w : World) :
    Calls Tryz.prog 83 #[.string s] w fun e w' => EncOf (bsN s) e ∧ Below w.heap.size w w' := by
  go_enter Tryz.func83, Tryz.ntmps83
  go_wp2_with fail
  refine (p_encodings _).mono ?_
  rintro e w1 ⟨rfl, he, hb⟩
  obtain ⟨g, hg⟩ : ∃ g, g = (w.alloc (.cells #[.string ⟨#[]⟩, .nilFunc] 60)).heap.size := ⟨_, rfl⟩
  rw [← hg] at he ⊢
  have hz0 : (w.alloc (.cells #[.string ⟨#[]⟩, .nilFunc] 60)).heap[w.heap.size]? = some (.cells #[.string ⟨#[]⟩, .nilFunc] 60 (0, 0)) := heap_new _ _
  have hz1 : w1.heap[w.heap.size]? = some (.cells #[.string ⟨#[]⟩, .nilFunc] 60 (0, 0)) := by rw [hb.block _ (by simp)]; exact hz0
  have HZ := Lib.hid hz1
  have HE := Lib.hid he
  have HB := Lib.hid (((Below.refl w.heap.size w).alloc (Nat.le_refl _) (.cells #[.string ⟨#[]⟩, .nilFunc] 60)).trans (hb.mono (by simp)))
  have HG : Hid (w.heap.size < w1.heap.size) := lt_of_block hz1
  clear hg hz0 hz1 he hb
  go_wp2
  go_loopw [8] (fun iv wr => ∃ j : Nat, j ≤ 2 ∧ iv = .int .i64 (j : Nat) ∧ Hid (0 < j → bsN s ≠ hexW) ∧ Hid (1 < j → bsN s ≠ b64W) ∧ Hid (EB wr g) ∧ Hid (wr.heap[w.heap.size]? = some (.cells #[.string ⟨#[]⟩, .nilFunc] 60 (0, 0))) ∧ Hid (Below w.heap.size w wr)) (fun iv _ => 2 - (intOf iv).toNat)
  case atStart => exact ⟨0, by omega, rfl, (by intro h; omega), (by intro h; omega), HE.out, HZ.out, HB.out⟩
  case round =>
    obtain ⟨j, hj, rfl, H1, H2, HE, HZ, HB⟩ := hrel
    obtain ⟨k0, k1, k2, k3⟩ := HE.out
    have hzlt := lt_of_block HZ.out
    have z0 : wr.cell? ⟨w.heap.size, 0, none⟩ = some (.string ⟨#[]⟩) := by simp [World.cell?, HZ.out]
    have z1 : wr.cell? ⟨w.heap.size, 1, none⟩ = some .nilFunc := by simp [World.cell?, HZ.out]
    have f0 : wr.frozen? ⟨w.heap.size, 0, none⟩ = false := by simp [World.frozen?, HZ.out]
    have f1 : wr.frozen? ⟨w.heap.size, 1, none⟩ = false := by simp [World.frozen?, HZ.out]
    rcases (show j = 0 ∨ j = 1 ∨ j = 2 by omega) with rfl | rfl | rfl
    · by_cases hq : bsN s = hexW
      · have q1 : (s.toList == [104, 101, 120]) = true := by rw [beq_lit]; exact decide_eq_true hq
        have q2 : (([104, 101, 120] : List UInt8) == s.toList) = true := by rw [BEq.comm]; exact q1
        have HQ := Lib.hid hq
        clear hq
        go_wp2
        refine bodyPost_ret (results_cbT rfl rfl rfl ((((show CB wr 60 w.heap.size [.string ⟨#[]⟩, .nilFunc] from HZ.out).set 0 (.string ⟨#[104, 101, 120]⟩)).set 1 (.func (.func 175) #[] #[])).alloc _) Tryz.underlying60 infoEnc) rfl ?_
        exact ⟨.inl ⟨HQ.out, rfl⟩, ((HB.out.setCell (p := ⟨w.heap.size, 0, none⟩) (Nat.le_refl _) _).setCell (p := ⟨w.heap.size, 1, none⟩) (Nat.le_refl _) _).alloc (by simp; omega) _⟩
      · have q1 : (s.toList == [104, 101, 120]) = false := by rw [beq_lit]; exact decide_eq_false hq
        have q2 : (([104, 101, 120] : List UInt8) == s.toList) = false := by rw [BEq.comm]; exact q1
        have HQ := Lib.hid hq
        clear hq
        go_wp2
        go_roundw
        case rel => exact ⟨1, by omega, rfl, (fun _ => HQ.out), (fun h => by omega), HE.out.below ((Below.refl _ _).alloc (Nat.le_refl _) _), ((((Below.refl _ wr).alloc (Nat.le_refl _) _).block _ hzlt).trans HZ.out), HB.out.alloc (by omega) _⟩
        case measure => simp [intOf]
    · by_cases hq : bsN s = b64W
      · have q1 : (s.toList == [98, 97, 115, 101, 54, 52]) = true := by rw [beq_lit]; exact decide_eq_true hq
        have q2 : (([98, 97, 115, 101, 54, 52] : List UInt8) == s.toList) = true := by rw [BEq.comm]; exact q1
        have HQ := Lib.hid hq
        clear hq
        go_wp2
        refine bodyPost_ret (results_cbT rfl rfl rfl ((((show CB wr 60 w.heap.size [.string ⟨#[]⟩, .nilFunc] from HZ.out).set 0 (.string ⟨#[98, 97, 115, 101, 54, 52]⟩)).set 1 (.func (.func 176) #[] #[])).alloc _) Tryz.underlying60 infoEnc) rfl ?_
        exact ⟨.inr (.inl ⟨HQ.out, rfl⟩), ((HB.out.setCell (p := ⟨w.heap.size, 0, none⟩) (Nat.le_refl _) _).setCell (p := ⟨w.heap.size, 1, none⟩) (Nat.le_refl _) _).alloc (by simp; omega) _⟩
      · have q1 : (s.toList == [98, 97, 115, 101, 54, 52]) = false := by rw [beq_lit]; exact decide_eq_false hq
        have q2 : (([98, 97, 115, 101, 54, 52] : List UInt8) == s.toList) = false := by rw [BEq.comm]; exact q1
        have HQ := Lib.hid hq
        clear hq
        go_wp2
        go_roundw
        case rel => exact ⟨2, by omega, rfl, (fun _ => H1.out (by decide)), (fun _ => HQ.out), HE.out.below ((Below.refl _ _).alloc (Nat.le_refl _) _), ((((Below.refl _ wr).alloc (Nat.le_refl _) _).block _ hzlt).trans HZ.out), HB.out.alloc (by omega) _⟩
        case measure => simp [intOf]
    · go_wp2
      refine bodyPost_ret (results_cbT rfl rfl rfl (((show CB wr 60 w.heap.size [.string ⟨#[]⟩, .nilFunc] from HZ.out).set 0 (.string ⟨#[]⟩)).set 1 .nilFunc) Tryz.underlying60 infoEnc) rfl ?_
      exact ⟨.inr (.inr ⟨H1.out (by decide), H2.out (by decide), rfl⟩), (HB.out.setCell (p := ⟨w.heap.size, 0, none⟩) (Nat.le_refl _) _).setCell (p := ⟨w.heap.size, 1, none⟩) (Nat.le_refl _) _⟩

/-! The program's words: a text taken apart. -/
/-- A text cut at its first colon. -/
def CutT (s : ByteArray) (e : Ending) : Prop :=
  (∃ f d, bsN s = f ++ 58 :: d ∧ 58 ∉ f ∧ e = .returned (.tuple #[.string (strN f), .string (strN d), .bool true])) ∨ (58 ∉ bsN s ∧ e = .returned (.tuple #[.string s, .string ⟨#[]⟩, .bool false]))
set_option maxHeartbeats 1000000 in
set_option maxRecDepth 100000 in
theorem p_cutL (s : ByteArray) (n : Nat) (w : World) (hn : s.size = n) (hbig : n ≤ 1099511627776) :
    Calls Tryz.prog 130 #[.string s, .string ⟨#[58]⟩] w fun e w' => CutT s e ∧ Below w.heap.size w w' := by
  have hl : (bsN s).length = n := by rw [bsN_len, hn]
  rcases index_list s.data.toList 58 with ⟨h1, h2⟩ | ⟨i, h1, h2, h3, h4⟩
  · have HN : Hid (58 ∉ bsN s) := h2
    clear h2 hl
    go_enter Tryz.func130, Tryz.ntmps130
    go_wp2_with fail
    refine (Tryz.stringslite_Index_one s 58 _).mono ?_
    rintro e w1 ⟨rfl, rfl⟩
    rw [h1]
    clear h1
    go_wp2
    go_ret3
    exact ⟨.inr ⟨HN.out, rfl⟩, Below.refl _ _⟩
  · have hin : i < n := by rw [← hn]; exact h2
    have HE1 : Hid (s.extract 0 i = strN ((bsN s).take i)) := by show _ = _; rw [ext_str]; simp
    have HE2 : Hid (s.extract (i + 1) n = strN ((bsN s).drop (i + 1))) := by show _ = _; rw [ext_str, List.take_of_length_le (by rw [List.length_drop, hl]; omega)]
    obtain ⟨f, hf⟩ : ∃ f, f = (bsN s).take i := ⟨_, rfl⟩
    obtain ⟨d, hd⟩ : ∃ d, d = (bsN s).drop (i + 1) := ⟨_, rfl⟩
    have HS : Hid (bsN s = f ++ 58 :: d) := by show _ = _; rw [hf, hd]; exact h3
    have HN : Hid (58 ∉ f) := by show 58 ∉ _; rw [hf]; exact h4
    rw [← hf] at HE1
    rw [← hd] at HE2
    clear hf hd
    have c1 : (0 : Int) ≤ (i : Int) := by omega
    have c2 : (i : Int) ≤ (n : Int) := by omega
    have c3 : (0 : Int) ≤ (i : Int) + 1 := by omega
    have c4 : (i : Int) + 1 ≤ (n : Int) := by omega
    have c5 : IntKind.i64.wrap ((i : Int) + 1) = (i : Int) + 1 := by rw [show ((i : Int) + 1) = ((i + 1 : Nat) : Int) by omega]; exact wrap_i64_nat _ (by omega)
    clear h2 h3 h4 hl
    go_enter Tryz.func130, Tryz.ntmps130
    go_wp2_with fail
    refine (Tryz.stringslite_Index_one s 58 _).mono ?_
    rintro e w1 ⟨rfl, rfl⟩
    rw [h1]
    clear h1
    go_wp2
    go_region_with (fail)
    all_goals
      go_simp
      rw [HE1.out, HE2.out]
      go_wp2
      go_ret3
      refine ⟨.inl ⟨f, d, HS.out, HN.out, (by go_simp)⟩, (Below.refl _ _).drew⟩
set_option maxHeartbeats 1000000 in
set_option maxRecDepth 100000 in
theorem p_cut (s : ByteArray) (n : Nat) (w : World) (hn : s.size = n) (hbig : n ≤ 1099511627776) :
    Calls Tryz.prog 81 #[.string s, .string ⟨#[58]⟩] w fun e w' => CutT s e ∧ Below w.heap.size w w' := by
  go_enter Tryz.func81, Tryz.ntmps81
  go_wp2_with fail
  refine (p_cutL s n _ hn hbig).mono ?_
  rintro e w1 ⟨⟨f, d, hs, hf, rfl⟩ | ⟨hno, rfl⟩, hb⟩
  · have HS := Lib.hid hs
    have HF := Lib.hid hf
    clear hs hf
    go_wp2
    go_ret3
    exact ⟨.inl ⟨f, d, HS.out, HF.out, rfl⟩, hb⟩
  · have HN := Lib.hid hno
    clear hno
    go_wp2
    go_ret3
    exact ⟨.inr ⟨HN.out, rfl⟩, hb⟩
end Go.Proofs.YtaookoejdnkkoaaGreatDoor
