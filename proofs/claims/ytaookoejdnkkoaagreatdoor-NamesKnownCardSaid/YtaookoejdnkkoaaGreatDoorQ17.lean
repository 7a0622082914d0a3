import Derived.Test.YtaookoejdnkkoaaGreatDoorQ09
import Derived.Test.YtaookoejdnkkoaaGreatDoorQ16
namespace Go.Proofs.YtaookoejdnkkoaaGreatDoor
open Go.RowKit

/-! The program's words: a text taken apart. -/
theorem infoCod : (Tryz.prog.info? 62).map (·.size) = some 5 := by kernel_rfl
theorem CB.five {w : World} {t : TypeId} {g : Nat} {a b c d e : Value} (h : CB w t g [a, b, c, d, e]) :
    (w.cell? ⟨g, 0, none⟩ = some a ∧ w.cell? ⟨g, 1, none⟩ = some b ∧ w.cell? ⟨g, 2, none⟩ = some c ∧ w.cell? ⟨g, 3, none⟩ = some d ∧ w.cell? ⟨g, 4, none⟩ = some e) ∧
    (w.frozen? ⟨g, 0, none⟩ = false ∧ w.frozen? ⟨g, 1, none⟩ = false ∧ w.frozen? ⟨g, 2, none⟩ = false ∧ w.frozen? ⟨g, 3, none⟩ = false ∧ w.frozen? ⟨g, 4, none⟩ = false) :=
  ⟨⟨h.cell 0, h.cell 1, h.cell 2, h.cell 3, h.cell 4⟩, h.free 0, h.free 1, h.free 2, h.free 3, h.free 4⟩
theorem CB.two {w : World} {t : TypeId} {g : Nat} {a b : Value} (h : CB w t g [a, b]) : (w.cell? ⟨g, 0, none⟩ = some a ∧ w.cell? ⟨g, 1, none⟩ = some b) ∧ w.frozen? ⟨g, 0, none⟩ = false ∧ w.frozen? ⟨g, 1, none⟩ = false :=
  ⟨⟨h.cell 0, h.cell 1⟩, h.free 0, h.free 1⟩
abbrev coded0 : List Value := [.string ⟨#[]⟩, .string ⟨#[]⟩, .string ⟨#[]⟩, .nilFunc, .string ⟨#[]⟩]
theorem CB.set5 {w : World} {t : TypeId} {g : Nat} {v0 v1 v2 v3 v4 : Value} (h : CB w t g [v0, v1, v2, v3, v4]) (a b c d e : Value) :
    CB (((((w.setCell ⟨g, 0, none⟩ a).setCell ⟨g, 1, none⟩ b).setCell ⟨g, 2, none⟩ c).setCell ⟨g, 3, none⟩ d).setCell ⟨g, 4, none⟩ e) t g [a, b, c, d, e] := ((((h.set 0 a).set 1 b).set 2 c).set 3 d).set 4 e
theorem below_set5 {w w' : World} {B g : Nat} (h : Below B w w') (hg : B ≤ g) (a b c d e : Value) :
    Below B w (((((w'.setCell ⟨g, 0, none⟩ a).setCell ⟨g, 1, none⟩ b).setCell ⟨g, 2, none⟩ c).setCell ⟨g, 3, none⟩ d).setCell ⟨g, 4, none⟩ e) :=
  ((((h.setCell (p := ⟨g, 0, none⟩) hg a).setCell (p := ⟨g, 1, none⟩) hg b).setCell (p := ⟨g, 2, none⟩) hg c).setCell (p := ⟨g, 3, none⟩) hg d).setCell (p := ⟨g, 4, none⟩) hg e
/-- What reads an encoding. -/
def IsRd (en : List Nat) (F : Value) : Prop := (en = hexW ∧ F = .func (.func 175) #[] #[]) ∨ (en = b64W ∧ F = .func (.func 176) #[] #[])
/-- What a text is when it is taken apart. -/
def ApartT (l : List Nat) (e : Ending) : Prop :=
  (∃ f a en d F, NamF l f a en d ∧ IsRd en F ∧ e = .returned (.tuple #[.agg #[.string (strN f), .string (strN a), .string (strN en), F, .string (strN d)], .bool true])) ∨
  ((∀ f a en d, ¬ NamF l f a en d) ∧ ∃ x1 x2 x3 x5, e = .returned (.tuple #[.agg #[.string x1, .string x2, .string x3, .nilFunc, .string x5], .bool false]))
set_option maxHeartbeats 1000000 in
set_option maxRecDepth 100000 in
theorem p_apart (s : ByteArray) (n : Nat) (w : World) (hn : s.size = n) (hbig : n ≤ 1099511627776) :
    Calls Tryz.prog 37 #[.string s] w fun e w' => ApartT (bsN s) e ∧ Below w.heap.size w w' := by
  have hl : (bsN s).length = n := by rw [bsN_len, hn]
  have h8 := bsN_8 s
  have HL := Lib.hid hl
  have H8 := Lib.hid h8
  clear hl h8
  go_enter Tryz.func37, Tryz.ntmps37
  go_wp2_with fail
  refine (p_cut s n _ hn hbig).mono ?_
  have hz0 : CB (w.alloc (.cells coded0.toArray 62)) 62 w.heap.size coded0 := CB.new w _ _
  rintro e w1 ⟨⟨f, d, hs, hf, rfl⟩ | ⟨hno, rfl⟩, hb1⟩
  · have HZ := Lib.hid (hz0.below hb1)
    have HB := Lib.hid (((Below.refl w.heap.size w).alloc (Nat.le_refl _) (.cells coded0.toArray 62)).trans (hb1.mono (by simp)))
    obtain ⟨h8f, h8d⟩ := b8_split H8.out hs
    have hlen : f.length ≤ n := by have := HL.out; rw [hs] at this; simp at this; omega
    obtain ⟨F, hF⟩ : ∃ F, F = strN f := ⟨_, rfl⟩
    have hFs : F.size = f.length := by rw [hF, strN_size]
    have HFB : Hid (bsN F = f) := by show _ = _; rw [hF]; exact bsN_strN h8f
    obtain ⟨k, hk⟩ : ∃ k, k = f.length := ⟨_, rfl⟩
    rw [← hk] at hFs hlen
    rw [← hF]
    have HK := Lib.hid hk
    have HS := Lib.hid hs
    have HF := Lib.hid hf
    have HFE := Lib.hid hF
    have H8F := Lib.hid h8f
    clear hz0 hb1 hs hf h8f h8d hF hk
    have hla := Tryz.strings_LastIndex_one F ⟨#[45]⟩ rfl (by omega)
    have HLA : Hid (∀ W, Calls Tryz.prog 82 #[.string F, .string ⟨#[45]⟩] W fun e w' => e = .returned (.int .i64 (Lib.lastIndexByte F ((45 : Nat) : Int))) ∧ w' = W) := hla
    clear hla
    go_wp2_with fail
    refine (HLA.out _).mono ?_
    rintro e w2 ⟨rfl, rfl⟩
    rcases last_list F 45 with ⟨h1, h2⟩ | ⟨i, h1, h2, h3, h4⟩
    · rw [h1]
      rw [HFB.out] at h2
      have HP : Hid (∀ f' a en d, ¬ NamF (bsN s) f' a en d) := fun f' a en d => nam_nodash HS.out HF.out h2
      obtain ⟨⟨z0, z1, z2, z3, z4⟩, f0, f1, f2, f3, f4⟩ := HZ.out.five
      clear h1 h2 HLA
      go_wp2
      refine bodyPost_ret (results_cbT rfl rfl rfl (HZ.out.set5 _ _ _ _ _) Tryz.underlying62 infoCod) rfl ?_
      exact ⟨.inr ⟨HP.out, _, _, _, _, rfl⟩, below_set5 HB.out (Nat.le_refl _) _ _ _ _ _⟩
    · rw [h1]
      have hik : i < k := by rw [← hFs]; exact h2
      have hFl : (bsN F).length = k := by rw [bsN_len, hFs]
      have HE1 : Hid (F.extract 0 i = strN ((bsN F).take i)) := by show _ = _; rw [ext_str]; simp
      have HE2 : Hid (bsN (F.extract (i + 1) k) = (bsN F).drop (i + 1)) := by show _ = _; rw [bsN_extract, List.take_of_length_le (by rw [List.length_drop, hFl]; omega)]
      have hq1 : (F.extract (i + 1) k).size = k - (i + 1) := by rw [← bsN_len, HE2.out, List.length_drop, hFl]
      obtain ⟨p, hp⟩ : ∃ p, p = (bsN F).take i := ⟨_, rfl⟩
      obtain ⟨q, hq⟩ : ∃ q, q = (bsN F).drop (i + 1) := ⟨_, rfl⟩
      rw [← hp, ← hq, HFB.out] at h3
      rw [← hq] at h4 HE2
      rw [← hp] at HE1
      have hpl : p.length = i := by rw [hp]; simp; omega
      have hp8 : B8 p := by rw [h3] at H8F; exact (b8_split H8F.out rfl).1
      have hq8 : B8 q := by rw [h3] at H8F; exact (b8_split H8F.out rfl).2
      have HFF := Lib.hid h3
      have HQ45 := Lib.hid h4
      have HP8 := Lib.hid hp8
      have HQ8 := Lib.hid hq8
      obtain ⟨G, hG⟩ : ∃ G, G = F.extract (i + 1) k := ⟨_, rfl⟩
      rw [← hG] at HE2 hq1
      have HG : F.extract (i + 1) k = G := hG.symm
      obtain ⟨P, hP⟩ : ∃ P, P = strN p := ⟨_, rfl⟩
      have hPs : P.size = i := by rw [hP, strN_size, hpl]
      have HPB : Hid (bsN P = p) := by show _ = _; rw [hP]; exact bsN_strN hp8
      have HPE : F.extract 0 i = P := by rw [hP]; exact HE1.out
      have c1 : (0 : Int) ≤ (i : Int) := by omega
      have c2 : (i : Int) ≤ (k : Int) := by omega
      have c3 : (0 : Int) ≤ (i : Int) + 1 := by omega
      have c4 : (i : Int) + 1 ≤ (k : Int) := by omega
      have c5 : IntKind.i64.wrap ((i : Int) + 1) = (i : Int) + 1 := by rw [show ((i : Int) + 1) = ((i + 1 : Nat) : Int) by omega]; exact wrap_i64_nat _ (by omega)
      clear h1 h2 HLA h3 h4 hp hq hG hP hp8 hq8 hFl hpl HE1
      go_wp2_with fail
      refine (p_small G (k - (i + 1)) _ hq1 (by omega)).mono ?_
      rw [HE2.out]
      rintro e w3 ⟨rfl, hb3⟩
      have HZ := Lib.hid (HZ.out.below hb3)
      have HB := Lib.hid (HB.out.trans (hb3.mono HB.out.size))
      have HEN8 : Hid (B8 (q.map loA)) := b8_loA HQ8.out
      clear hb3
      go_wp2_with fail
      refine (p_encodingOf _ _).mono ?_
      rw [bsN_strN HEN8.out]
      rintro e w4 ⟨⟨hen, rfl⟩ | ⟨hen, rfl⟩ | ⟨he1, he2, rfl⟩, hb4⟩
      · have HZ := Lib.hid (HZ.out.below hb4)
        have HB := Lib.hid (HB.out.trans (hb4.mono HB.out.size))
        have HEN := Lib.hid hen
        have hzlt : w.heap.size < w4.heap.size := HZ.out.lt
        clear hb4 hen
        go_wp2
        go_region_with (go_at_call 84; refine (p_small P i _ hPs (by omega)).mono ?_; rintro e w5 ⟨rfl, hb5⟩; obtain ⟨⟨z0, z1, z2, z3, z4⟩, f0, f1, f2, f3, f4⟩ := ((HZ.out.alloc _).below (below_drw hb5)).five; have k0 := below_cell (below_drw hb5) ⟨w4.heap.size, 0, none⟩ _ (World.cell?_alloc_at _ _ _ _ rfl); have k1 := below_cell (below_drw hb5) ⟨w4.heap.size, 1, none⟩ _ (World.cell?_alloc_at _ _ _ _ rfl))
        all_goals
          go_wp2
          refine bodyPost_ret (results_cbT rfl rfl rfl (((HZ.out.alloc _).below (below_drw hb5)).set5 _ _ _ _ _) Tryz.underlying62 infoCod) rfl ?_
          exact ⟨.inl ⟨f, p.map loA, hexW, d, .func (.func 175) #[] #[], by rw [← HEN.out]; exact nam_yes HS.out HF.out HFF.out (.inl HEN.out), .inl ⟨rfl, rfl⟩, by rw [HFE.out, HPB.out]; rfl⟩, below_set5 ((HB.out.alloc (by omega) _).trans ((below_drw hb5).mono (by simp; omega))) (Nat.le_refl _) _ _ _ _ _⟩
      · have HZ := Lib.hid (HZ.out.below hb4)
        have HB := Lib.hid (HB.out.trans (hb4.mono HB.out.size))
        have HEN := Lib.hid hen
        have hzlt : w.heap.size < w4.heap.size := HZ.out.lt
        clear hb4 hen
        go_wp2
        go_region_with (go_at_call 84; refine (p_small P i _ hPs (by omega)).mono ?_; rintro e w5 ⟨rfl, hb5⟩; obtain ⟨⟨z0, z1, z2, z3, z4⟩, f0, f1, f2, f3, f4⟩ := ((HZ.out.alloc _).below (below_drw hb5)).five; have k0 := below_cell (below_drw hb5) ⟨w4.heap.size, 0, none⟩ _ (World.cell?_alloc_at _ _ _ _ rfl); have k1 := below_cell (below_drw hb5) ⟨w4.heap.size, 1, none⟩ _ (World.cell?_alloc_at _ _ _ _ rfl))
        all_goals
          go_wp2
          refine bodyPost_ret (results_cbT rfl rfl rfl (((HZ.out.alloc _).below (below_drw hb5)).set5 _ _ _ _ _) Tryz.underlying62 infoCod) rfl ?_
          exact ⟨.inl ⟨f, p.map loA, b64W, d, .func (.func 176) #[] #[], by rw [← HEN.out]; exact nam_yes HS.out HF.out HFF.out (.inr HEN.out), .inr ⟨rfl, rfl⟩, by rw [HFE.out, HPB.out]; rfl⟩, below_set5 ((HB.out.alloc (by omega) _).trans ((below_drw hb5).mono (by simp; omega))) (Nat.le_refl _) _ _ _ _ _⟩
      · have HZ := Lib.hid (HZ.out.below hb4)
        have HB := Lib.hid (HB.out.trans (hb4.mono HB.out.size))
        have HP : Hid (∀ f' a en d', ¬ NamF (bsN s) f' a en d') := fun f' a en d' => nam_noenc HS.out HF.out HFF.out HQ45.out he1 he2
        have hzlt : w.heap.size < w4.heap.size := HZ.out.lt
        clear hb4 he1 he2
        go_wp2
        go_region_with (go_at_call 84; refine (p_small P i _ hPs (by omega)).mono ?_; rintro e w5 ⟨rfl, hb5⟩; obtain ⟨⟨z0, z1, z2, z3, z4⟩, f0, f1, f2, f3, f4⟩ := ((HZ.out.alloc _).below (below_drw hb5)).five; have k0 := below_cell (below_drw hb5) ⟨w4.heap.size, 0, none⟩ _ (World.cell?_alloc_at _ _ _ _ rfl); have k1 := below_cell (below_drw hb5) ⟨w4.heap.size, 1, none⟩ _ (World.cell?_alloc_at _ _ _ _ rfl))
        all_goals
          go_wp2
          refine bodyPost_ret (results_cbT rfl rfl rfl (((HZ.out.alloc _).below (below_drw hb5)).set5 _ _ _ _ _) Tryz.underlying62 infoCod) rfl ?_
          exact ⟨.inr ⟨HP.out, _, _, _, _, rfl⟩, below_set5 ((HB.out.alloc (by omega) _).trans ((below_drw hb5).mono (by simp; omega))) (Nat.le_refl _) _ _ _ _ _⟩
  · have HZ := Lib.hid (hz0.below hb1)
    have HB := Lib.hid (((Below.refl w.heap.size w).alloc (Nat.le_refl _) (.cells coded0.toArray 62)).trans (hb1.mono (by simp)))
    have HP : Hid (∀ f' a en d', ¬ NamF (bsN s) f' a en d') := fun f' a en d' => nam_nocol hno
    have hla := Tryz.strings_LastIndex_one s ⟨#[45]⟩ rfl (by omega)
    have HLA : Hid (∀ W, Calls Tryz.prog 82 #[.string s, .string ⟨#[45]⟩] W fun e w' => e = .returned (.int .i64 (Lib.lastIndexByte s ((45 : Nat) : Int))) ∧ w' = W) := hla
    clear hla hz0 hb1 hno
    go_wp2_with fail
    refine (HLA.out _).mono ?_
    rintro e w2 ⟨rfl, rfl⟩
    obtain ⟨⟨z0, z1, z2, z3, z4⟩, f0, f1, f2, f3, f4⟩ := HZ.out.five
    generalize Lib.lastIndexByte s ((45 : Nat) : Int) = j
    clear HLA
    go_wp2
    refine bodyPost_ret (results_cbT rfl rfl rfl (HZ.out.set5 _ _ _ _ _) Tryz.underlying62 infoCod) rfl ?_
    exact ⟨.inr ⟨HP.out, _, _, _, _, rfl⟩, below_set5 HB.out (Nat.le_refl _) _ _ _ _ _⟩

/-! The program's words: the bytes of the data, Signature. -/
/-- What the data tells. -/
def BytP (en l : List Nat) (w : World) (e : Ending) (w' : World) : Prop :=
  Below w.heap.size w w' ∧ ∃ a c k b, e = .returned (.tuple #[.slice a (List.length b) c, .int .i64 k]) ∧ own8 w' w.heap.size (.slice a (List.length b) c) b ∧ RdT en l k b ∧ b.length ≤ l.length ∧ b.length ≤ c ∧ Rd .u8 w' a b ∧ (a = none → c = 0) ∧ c ≤ 9223372036854775807
abbrev CodO (f a en d : ByteArray) (F : Value) : Obj := .cells #[.string f, .string a, .string en, F, .string d] 62
set_option maxHeartbeats 1000000 in
set_option maxRecDepth 100000 in
theorem p_bytes (f a en d : ByteArray) (F : Value) (m : Nat) (w : World) (hm : d.size = m) (hbig : m ≤ 1099511627776) (hF : IsRd (bsN en) F) (hH : HT w) (hB : BT w) :
    Calls Tryz.prog 49 #[.agg #[.string f, .string a, .string en, F, .string d]] w (BytP (bsN en) (bsN d) w) := by
  have hb0 : Below w.heap.size w (w.alloc (CodO f a en d F)) := (Below.refl _ _).alloc (Nat.le_refl _) _
  have HH := Lib.hid (hH.below hb0)
  have HB := Lib.hid (hB.below hb0)
  have HW := Lib.hid hb0
  clear hH hB hb0
  rcases hF with ⟨he, rfl⟩ | ⟨he, rfl⟩
  all_goals
    have HE := Lib.hid he
    rw [he]
    clear he
    go_enter Tryz.func49, Tryz.ntmps49
    go_wp2_with fail
    first
      | refine (unhex_any d m _ hm hbig HH.out).mono ?_
      | refine (un64_any d m _ hm hbig HB.out).mono ?_
    intro e w1 hp
    obtain ⟨hb, a1, c1, k0, b, rfl, ho, ht, h4, h5, h6, h7, h8⟩ := (by first | exact rdp_hex hp | exact rdp_64 hp : RdP _ _ _ _ _)
    have HW := Lib.hid (HW.out.trans (hb.mono HW.out.size))
    have HO := Lib.hid (owns_base ho (show w.heap.size ≤ (w.alloc _).heap.size by simp))
    have HT := Lib.hid ht
    have H6 := Lib.hid h6
    have H7 := Lib.hid h7
    clear hp hb ho ht h6 h7
    by_cases hk : k0 = 0
    · subst hk
      rw [if_pos rfl] at HT
      go_wp2
      go_ret2
      exact ⟨HW.out, a1, c1, 0, b, rfl, HO.out, HT.out, h4, h5, H6.out, H7.out, h8⟩
    · rw [if_neg hk] at HT
      have hkk : (k0 != 0) = true := by simp [hk]
      have hbn : b = [] := by
        rcases HT.out.kinds with h | ⟨_, h⟩
        · cases h
        · exact h
      subst hbn
      have HKK := Lib.hid hk
      clear hk
      go_wp2
      go_ret2
      exact ⟨HW.out, none, 0, 91, [], rfl, World.ownsRow_nil _ _ _ _, HT.out, Nat.zero_le _, Nat.zero_le _, (fun j hj => absurd hj (by simp)), (fun _ => rfl), by decide⟩

/-! The program's words: Signature. -/
theorem strN_app (a b : List Nat) : strN a ++ strN b = strN (a ++ b) := by
  apply ByteArray.ext
  rw [ByteArray.data_append]
  simp [strN]
theorem nam_b8 {l f a en d : List Nat} (h8 : B8 l) (h : NamF l f a en d) : B8 f ∧ B8 a ∧ B8 en ∧ B8 d := by
  obtain ⟨h1, h2⟩ := b8_split h8 h.1
  have h3 := b8_loA h1
  rw [h.2.2.1] at h3
  obtain ⟨h4, h5⟩ := b8_split h3 rfl
  exact ⟨h1, h4, h5, h2⟩
theorem nam_lens {l f a en d : List Nat} (h : NamF l f a en d) : f.length + d.length + 1 = l.length ∧ a.length ≤ l.length := by
  have h1 := congrArg List.length h.1
  have h2 := congrArg List.length h.2.2.1
  simp at h1 h2
  omega
set_option maxHeartbeats 2000000 in
set_option maxRecDepth 100000 in
theorem p_sig (s : ByteArray) (n : Nat) (w : World) (hn : s.size = n) (hbig : n ≤ 1099511627776) (hH : HT w) (hB : BT w) :
    Calls Tryz.prog 20 #[.string s] w (SigP (bsN s) w) := by
  have hl : (bsN s).length = n := by rw [bsN_len, hn]
  have h8 := bsN_8 s
  have HL := Lib.hid hl
  have H8 := Lib.hid h8
  have HH := Lib.hid hH
  have HB := Lib.hid hB
  clear hl h8 hH hB
  by_cases hlim : 65536 < n
  · have hq : decide ((65536 : Int) < (n : Int)) = true := decide_eq_true (by omega)
    go_enter Tryz.func20, Tryz.ntmps20
    go_wp2
    go_ret3
    exact SigP.none (Below.refl _ _) (.inl ⟨by rw [HL.out]; exact hlim, rfl, rfl, rfl⟩)
  · have hq : decide ((65536 : Int) < (n : Int)) = false := decide_eq_false (by omega)
    have HLIM : Hid ((bsN s).length ≤ 65536) := by show _ ≤ _; rw [HL.out]; omega
    clear hlim
    go_enter Tryz.func20, Tryz.ntmps20
    go_wp2_with fail
    refine (p_apart s n _ hn hbig).mono ?_
    rintro e w1 ⟨⟨f, a, en, d, F, hnam, hF, rfl⟩ | ⟨hno, x1, x2, x3, x5, rfl⟩, hb1⟩
    · obtain ⟨h8f, h8a, h8e, h8d⟩ := nam_b8 H8.out hnam
      obtain ⟨hlen, hla⟩ := nam_lens hnam
      have HFF : Hid (B8 (f ++ [58])) := B8.app h8f (fun x hx => by simp at hx; omega)
      have hn' := HL.out
      rw [hn'] at hlen hla
      have hDs : (strN d).size = d.length := strN_size d
      have HDB : Hid (bsN (strN d) = d) := bsN_strN h8d
      have HEB : Hid (bsN (strN en) = en) := bsN_strN h8e
      have HAB : Hid (bsN (strN a) = a) := bsN_strN h8a
      have hFs : (strN f).size = f.length := strN_size f
      have HCC : Hid (strN f ++ ⟨#[58]⟩ = strN (f ++ [58])) := by show _ = _; rw [← strN_app]; rfl
      obtain ⟨FS, hFS⟩ : ∃ FS, FS = strN f := ⟨_, rfl⟩
      obtain ⟨A, hA⟩ : ∃ A, A = strN a := ⟨_, rfl⟩
      obtain ⟨EN, hEN⟩ : ∃ EN, EN = strN en := ⟨_, rfl⟩
      obtain ⟨D, hD⟩ : ∃ D, D = strN d := ⟨_, rfl⟩
      obtain ⟨m, hm⟩ : ∃ m, m = d.length := ⟨_, rfl⟩
      obtain ⟨q, hqf⟩ : ∃ q, q = f.length := ⟨_, rfl⟩
      rw [← hFS] at hFs HCC
      rw [← hA] at HAB
      rw [← hEN] at HEB
      rw [← hD] at hDs HDB
      rw [← hFS, ← hA, ← hEN, ← hD]
      rw [← hm] at hDs hlen
      rw [← hqf] at hFs hlen
      have HNAM := Lib.hid hnam
      have HFR : Hid (IsRd (bsN EN) F) := by show IsRd _ _; rw [HEB.out]; exact hF
      have HTB : Hid (∀ o, HT (w1.alloc o) ∧ BT (w1.alloc o)) := fun o => ⟨(HH.out.below hb1).below ((Below.refl _ _).alloc (Nat.le_refl _) o), (HB.out.below hb1).below ((Below.refl _ _).alloc (Nat.le_refl _) o)⟩
      have HW := Lib.hid hb1
      have HMD : Hid (m = d.length) := hm
      clear hb1 h8f h8a h8e h8d hFS hA hEN hD hm hqf hnam hF hn' hla
      by_cases ha : a = sigW
      · have y1 : (A.toList == [115, 105, 103, 45, 114, 115, 97, 45, 115, 104, 97, 49]) = true := by rw [beq_lit, HAB.out, ha]; decide
        have HA := Lib.hid ha
        clear ha
        rcases HFR.out with ⟨_, rfl⟩ | ⟨_, rfl⟩
        all_goals
          go_wp2_with fail
          refine (p_bytes FS A EN D _ m _ hDs (by omega) HFR.out (HTB.out _).1 (HTB.out _).2).mono ?_
          rw [HDB.out, HEB.out]
          rintro e w2 ⟨hb, a1, c1, k0, b, rfl, ho, ht, h4, h5, h6, h7, h8⟩
          have hcb := (CB.new w1 62 [.string FS, .string A, .string EN, _, .string D]).below hb
          have hfr := hcb.cell 0
          have HW0 := HW.out.size
          have HW := Lib.hid ((HW.out.alloc (by omega) _).trans (hb.mono (by simp; omega)))
          have HO := Lib.hid (owns_base ho (show w.heap.size ≤ _ by simp; omega))
          have HT := Lib.hid ht
          have H6 := Lib.hid h6
          have H7 := Lib.hid h7
          have H4 : Hid (b.length ≤ (bsN s).length) := by show _ ≤ _; rw [HL.out]; have := HMD.out; omega
          clear hb ho ht h6 h7 h4 hcb HW0
          rcases HT.out.kinds with rfl | ⟨rfl, rfl⟩
          · go_wp2
            rw [HCC.out]
            go_ret3
            exact ⟨HW.out, a1, c1, 0, f ++ [58], b, rfl, HO.out, .inr (.inr ⟨HLIM.out, f, en, d, by rw [← HA.out]; exact HNAM.out, HT.out, (if_pos rfl).symm⟩), HFF.out, H4.out, H6.out, h5, H7.out, h8⟩
          · go_wp2
            go_ret3
            exact SigP.none HW.out (.inr (.inr ⟨HLIM.out, f, en, d, by rw [← HA.out]; exact HNAM.out, HT.out, (if_neg (by decide)).symm⟩))
      · have y1 : (A.toList == [115, 105, 103, 45, 114, 115, 97, 45, 115, 104, 97, 49]) = false := by rw [beq_lit, HAB.out]; exact decide_eq_false ha
        have HN : Hid (∀ f e d, ¬ NamF (bsN s) f sigW e d) := fun f' e' d' h => ha (HNAM.out.one h).2.1
        clear ha
        rcases HFR.out with ⟨_, rfl⟩ | ⟨_, rfl⟩
        all_goals
          go_wp2
          go_ret3
          exact SigP.none (HW.out.alloc HW.out.size _) (.inr (.inl ⟨HLIM.out, HN.out, rfl, rfl, rfl⟩))
    · have HN : Hid (∀ f e d, ¬ NamF (bsN s) f sigW e d) := fun f e d => hno _ _ _ _
      clear hno
      go_wp2
      go_ret3
      exact SigP.none (hb1.alloc hb1.size _) (.inr (.inl ⟨HLIM.out, HN.out, rfl, rfl, rfl⟩))

/-! The program's words: whose key it is. -/
theorem infoPri : (Tryz.prog.info? 27).map (·.size) = some 4 := by kernel_rfl
theorem CB.set2 {w : World} {t : TypeId} {g : Nat} {v0 v1 : Value} (h : CB w t g [v0, v1]) (a b : Value) : CB ((w.setCell ⟨g, 0, none⟩ a).setCell ⟨g, 1, none⟩ b) t g [a, b] := (h.set 0 a).set 1 b
theorem CB.set4 {w : World} {t : TypeId} {g : Nat} {v0 v1 v2 v3 : Value} (h : CB w t g [v0, v1, v2, v3]) (a b c d : Value) :
    CB ((((w.setCell ⟨g, 0, none⟩ a).setCell ⟨g, 1, none⟩ b).setCell ⟨g, 2, none⟩ c).setCell ⟨g, 3, none⟩ d) t g [a, b, c, d] := (((h.set 0 a).set 1 b).set 2 c).set 3 d
theorem CB.four {w : World} {t : TypeId} {g : Nat} {a b c d : Value} (h : CB w t g [a, b, c, d]) :
    (w.cell? ⟨g, 0, none⟩ = some a ∧ w.cell? ⟨g, 1, none⟩ = some b ∧ w.cell? ⟨g, 2, none⟩ = some c ∧ w.cell? ⟨g, 3, none⟩ = some d) ∧
    (w.frozen? ⟨g, 0, none⟩ = false ∧ w.frozen? ⟨g, 1, none⟩ = false ∧ w.frozen? ⟨g, 2, none⟩ = false ∧ w.frozen? ⟨g, 3, none⟩ = false) :=
  ⟨⟨h.cell 0, h.cell 1, h.cell 2, h.cell 3⟩, h.free 0, h.free 1, h.free 2, h.free 3⟩
theorem below_set2 {w w' : World} {B g : Nat} (h : Below B w w') (hg : B ≤ g) (a b : Value) : Below B w ((w'.setCell ⟨g, 0, none⟩ a).setCell ⟨g, 1, none⟩ b) :=
  (h.setCell (p := ⟨g, 0, none⟩) hg a).setCell (p := ⟨g, 1, none⟩) hg b
theorem below_set4 {w w' : World} {B g : Nat} (h : Below B w w') (hg : B ≤ g) (a b c d : Value) :
    Below B w ((((w'.setCell ⟨g, 0, none⟩ a).setCell ⟨g, 1, none⟩ b).setCell ⟨g, 2, none⟩ c).setCell ⟨g, 3, none⟩ d) :=
  (((h.setCell (p := ⟨g, 0, none⟩) hg a).setCell (p := ⟨g, 1, none⟩) hg b).setCell (p := ⟨g, 2, none⟩) hg c).setCell (p := ⟨g, 3, none⟩) hg d
abbrev pri0 : List Value := [.int .i64 0, .string ⟨#[]⟩, .slice none 0 0, .slice none 0 0]
set_option maxHeartbeats 1000000 in
set_option maxRecDepth 100000 in
theorem p_keyless (k : Int) (s : ByteArray) (n : Nat) (w : World) (hn : s.size = n) (hbig : n ≤ 1099511627776) :
    Calls Tryz.prog 36 #[.int .i64 k, .string s] w fun e w' => e = .returned (.agg #[.int .i64 k, .string s, .slice none 0 0, .slice none 0 0]) ∧ Below w.heap.size w w' := by
  have hz0 : CB (w.alloc (.cells pri0.toArray 27)) 27 w.heap.size pri0 := CB.new w _ _
  have HZ := Lib.hid hz0
  clear hz0
  go_enter Tryz.func36, Tryz.ntmps36
  go_wp2_with (first
    | (go_at_call 129; refine (Tryz.stringslite_Clone s _ (by omega)).mono ?_; rintro e w1 ⟨rfl, hb⟩; obtain ⟨⟨z0, z1, z2, z3⟩, f0, f1, f2, f3⟩ := (HZ.out.below hb).four)
    | go_in)
  refine bodyPost_ret (results_cb1 rfl rfl ((HZ.out.below hb).set4 _ _ _ _) Tryz.underlying27 infoPri) rfl ?_
  exact ⟨rfl, below_set4 (((Below.refl w.heap.size w).alloc (Nat.le_refl _) (.cells pri0.toArray 27)).trans (hb.mono (by simp))) (Nat.le_refl _) _ _ _ _⟩
end Go.Proofs.YtaookoejdnkkoaaGreatDoor
