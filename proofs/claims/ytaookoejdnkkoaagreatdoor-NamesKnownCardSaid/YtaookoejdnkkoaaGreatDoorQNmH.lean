import Derived.Test.YtaookoejdnkkoaaGreatDoorQ15
namespace Go.Proofs.YtaookoejdnkkoaaGreatDoor
open Go.RowKit

/-! The reference's words: who is named, what data tells. -/

def hexS : ByteArray := ⟨#[104, 101, 120]⟩
def b64S : ByteArray := ⟨#[98, 97, 115, 101, 54, 52]⟩
/-- Who is named: the algorithm, the encoding, the data. -/
def NamedT (l : List Nat) (e : Ending) : Prop :=
  (∃ f a d, NamF l f a hexW d ∧ plainL a ∧ e = .returned (.tuple #[.string (strN a), .string hexS, .string (strN d), .bool true])) ∨ (∃ f a d, NamF l f a b64W d ∧ plainL a ∧ e = .returned (.tuple #[.string (strN a), .string b64S, .string (strN d), .bool true])) ∨
  ((∀ f a en d, NamF l f a en d → ¬ plainL a) ∧ e = .returned (.tuple #[.string ⟨#[]⟩, .string ⟨#[]⟩, .string ⟨#[]⟩, .bool false]))
theorem b8_split {l f d : List Nat} {c : Nat} (h8 : B8 l) (h : l = f ++ c :: d) : B8 f ∧ B8 d := by
  subst h
  exact ⟨fun x hx => h8 x (by simp [hx]), fun x hx => h8 x (by simp [hx])⟩
theorem b8_front {l a t : List Nat} (h8 : B8 l) (h : l = a ++ t) : B8 a := by subst h; exact fun x hx => h8 x (by simp [hx])
set_option maxHeartbeats 1000000 in
set_option maxRecDepth 100000 in
theorem r9named (s : ByteArray) (n : Nat) (w : World) (hn : s.size = n) (hbig : n ≤ 1099511627776) :
    Calls Tryz.prog 40 #[.string s] w fun e w' => NamedT (bsN s) e ∧ Below w.heap.size w w' := by
  have h8 := bsN_8 s
  have hl : (bsN s).length = n := by rw [bsN_len, hn]
  have H8 := Lib.hid h8
  have HL := Lib.hid hl
  clear h8 hl
  go_enter Tryz.func40, Tryz.ntmps40
  go_wp2_with fail
  refine (r9front s n _ hn hbig).mono ?_
  rintro e w1 ⟨⟨f, d, hs, hf, rfl⟩ | ⟨hno, rfl⟩, hb1⟩
  · obtain ⟨h8f, h8d⟩ := b8_split H8.out hs
    have hlen : f.length + d.length < n := by have := HL.out; rw [hs] at this; simp at this; omega
    have HF8 : Hid (B8 (f.map loA)) := b8_loA h8f
    have HD8 := Lib.hid h8d
    have HS := Lib.hid hs
    have HF := Lib.hid hf
    have HB := Lib.hid hb1
    have HFL : Hid ((f.map loA).length ≤ n) := by show _ ≤ _; rw [List.length_map]; omega
    obtain ⟨F, hF⟩ : ∃ F, F = strN (f.map loA) := ⟨_, rfl⟩
    have hFs : F.size = (f.map loA).length := by rw [hF, strN_size]
    obtain ⟨k, hk⟩ : ∃ k, k = (f.map loA).length := ⟨_, rfl⟩
    rw [← hk] at hFs HFL
    have hkn : k ≤ n := HFL.out
    have HFB : Hid (bsN F = f.map loA) := by show _ = _; rw [hF]; exact bsN_strN HF8.out
    rw [← hF]
    have HFE := Lib.hid hF
    have HK := Lib.hid hk
    clear hs hf hb1 h8f h8d hF hk hlen HFL
    go_wp2_with fail
    refine (r9ends F ⟨#[45, 104, 101, 120]⟩ k 4 _ hFs rfl (by omega) (by omega)).mono ?_
    rw [HFB.out, show bsN ⟨#[45, 104, 101, 120]⟩ = 45 :: hexW from rfl]
    rintro e w2 ⟨⟨a, ha, rfl⟩ | ⟨hno, rfl⟩, hb2⟩
    · have HA8 := b8_front HF8.out ha
      have HAS : Hid (bsN (strN a) = a) := bsN_strN HA8
      have hal : (strN a).size = a.length := strN_size a
      have hak : a.length ≤ k := by rw [HK.out, ha]; simp
      obtain ⟨A, hA⟩ : ∃ A, A = strN a := ⟨_, rfl⟩
      obtain ⟨j, hj⟩ : ∃ j, j = a.length := ⟨_, rfl⟩
      rw [← hA] at HAS hal
      rw [← hA]
      rw [← hj] at hal hak
      have HAE := Lib.hid hA
      have HA := Lib.hid ha
      have HB := Lib.hid (HB.out.trans (hb2.mono HB.out.size))
      clear ha HA8 hA hj hb2
      go_wp2_with fail
      refine (r9plain A j _ hal (by omega)).mono ?_
      rw [HAS.out]
      rintro e w3 ⟨⟨hp, rfl⟩ | ⟨hp, rfl⟩, hb3⟩
      · have HP := Lib.hid hp
        have HB := Lib.hid (HB.out.trans (hb3.mono HB.out.size))
        clear hp hb3
        go_wp2
        rw [HAE.out]
        refine bodyPost_ret (results_tmp4 rfl _ _ _) rfl ?_
        exact ⟨.inl ⟨f, a, d, ⟨HS.out, HF.out, HA.out, .inl rfl⟩, HP.out, rfl⟩, HB.out⟩
      · have HP := Lib.hid hp
        have HB := Lib.hid (HB.out.trans (hb3.mono HB.out.size))
        clear hp hb3
        go_wp2_with fail
        refine (r9ends F ⟨#[45, 98, 97, 115, 101, 54, 52]⟩ k 7 _ hFs rfl (by omega) (by omega)).mono ?_
        rw [HFB.out, show bsN ⟨#[45, 98, 97, 115, 101, 54, 52]⟩ = 45 :: b64W from rfl]
        rintro e w4 ⟨⟨b, hbb, rfl⟩ | ⟨hno2, rfl⟩, hb4⟩
        · exact absurd (last_one (HA.out.symm.trans hbb) (by decide) (by decide)).2 hex_ne_b64
        · have HB := Lib.hid (HB.out.trans (hb4.mono HB.out.size))
          clear hno2 hb4
          go_wp2
          refine bodyPost_ret (results_tmp4 rfl _ _ _) rfl ?_
          refine ⟨.inr (.inr ⟨fun f' a' en' d' h => ?_, rfl⟩), HB.out⟩
          obtain ⟨-, rfl, -, -⟩ := h.one ⟨HS.out, HF.out, HA.out, .inl rfl⟩
          exact HP.out
    · have HN := Lib.hid hno
      have HB := Lib.hid (HB.out.trans (hb2.mono HB.out.size))
      clear hno hb2
      go_wp2_with fail
      refine (r9ends F ⟨#[45, 98, 97, 115, 101, 54, 52]⟩ k 7 _ hFs rfl (by omega) (by omega)).mono ?_
      rw [HFB.out, show bsN ⟨#[45, 98, 97, 115, 101, 54, 52]⟩ = 45 :: b64W from rfl]
      rintro e w4 ⟨⟨a, ha, rfl⟩ | ⟨hno2, rfl⟩, hb2⟩
      · have HA8 := b8_front HF8.out ha
        have HAS : Hid (bsN (strN a) = a) := bsN_strN HA8
        have hal : (strN a).size = a.length := strN_size a
        have hak : a.length ≤ k := by rw [HK.out, ha]; simp
        obtain ⟨A, hA⟩ : ∃ A, A = strN a := ⟨_, rfl⟩
        obtain ⟨j, hj⟩ : ∃ j, j = a.length := ⟨_, rfl⟩
        rw [← hA] at HAS hal
        rw [← hA]
        rw [← hj] at hal hak
        have HAE := Lib.hid hA
        have HA := Lib.hid ha
        have HB := Lib.hid (HB.out.trans (hb2.mono HB.out.size))
        clear ha HA8 hA hj hb2
        go_wp2_with fail
        refine (r9plain A j _ hal (by omega)).mono ?_
        rw [HAS.out]
        rintro e w3 ⟨⟨hp, rfl⟩ | ⟨hp, rfl⟩, hb3⟩
        · have HP := Lib.hid hp
          have HB := Lib.hid (HB.out.trans (hb3.mono HB.out.size))
          clear hp hb3
          go_wp2
          rw [HAE.out]
          refine bodyPost_ret (results_tmp4 rfl _ _ _) rfl ?_
          exact ⟨.inr (.inl ⟨f, a, d, ⟨HS.out, HF.out, HA.out, .inr rfl⟩, HP.out, rfl⟩), HB.out⟩
        · have HP := Lib.hid hp
          have HB := Lib.hid (HB.out.trans (hb3.mono HB.out.size))
          clear hp hb3
          go_wp2
          refine bodyPost_ret (results_tmp4 rfl _ _ _) rfl ?_
          refine ⟨.inr (.inr ⟨fun f' a' en' d' h => ?_, rfl⟩), HB.out⟩
          obtain ⟨-, rfl, -, -⟩ := h.one ⟨HS.out, HF.out, HA.out, .inr rfl⟩
          exact HP.out
      · have HN2 := Lib.hid hno2
        have HB := Lib.hid (HB.out.trans (hb2.mono HB.out.size))
        clear hno2 hb2
        go_wp2
        refine bodyPost_ret (results_tmp4 rfl _ _ _) rfl ?_
        refine ⟨.inr (.inr ⟨fun f' a' en' d' h => ?_, rfl⟩), HB.out⟩
        obtain ⟨rfl, -⟩ := first_one (HS.out.symm.trans h.1) HF.out h.2.1
        rcases h.2.2.2 with rfl | rfl
        · exact absurd h.2.2.1 (HN.out _)
        · exact absurd h.2.2.1 (HN2.out _)
  · have HN := Lib.hid hno
    have HB := Lib.hid hb1
    clear hno hb1
    go_wp2
    refine bodyPost_ret (results_tmp4 rfl _ _ _) rfl ?_
    exact ⟨.inr (.inr ⟨fun f a en d h => absurd h.nocol HN.out, rfl⟩), HB.out⟩
end Go.Proofs.YtaookoejdnkkoaaGreatDoor
