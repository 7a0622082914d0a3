import Derived.Test.YtaookoejdnkkoaaGreatDoorQ13
import Derived.Test.YtaookoejdnkkoaaGreatDoorQ07
import Derived.Lib.Bytealg
import Derived.Lib.LastIndexByte
import Derived.Lib.SlTrimSet
namespace Go.Proofs.YtaookoejdnkkoaaGreatDoor
open Go.RowKit

/-- One fill cut off. -/
def cut1 (l : List Nat) : List Nat := if l.getLast? = some 61 then l.dropLast else l
theorem trim_bs (s : ByteArray) : bsN ⟨(Lib.trimSuffix s.data.toList [61]).toArray⟩ = cut1 (bsN s) := by
  have h1 : bsN ⟨(Lib.trimSuffix s.data.toList [61]).toArray⟩ = (Lib.trimSuffix s.data.toList [61]).map UInt8.toNat := rfl
  have h2 : bsN s = s.data.toList.map UInt8.toNat := rfl
  rw [h1, h2]
  generalize s.data.toList = l
  unfold Lib.trimSuffix cut1
  have h3 : (l.map UInt8.toNat).getLast? = l.getLast?.map UInt8.toNat := List.getLast?_map ..
  rw [h3]
  by_cases h : Lib.hasSuffix l [61] = true
  · rw [if_pos h]
    unfold Lib.hasSuffix at h
    rw [List.isSuffixOf_iff_suffix] at h
    obtain ⟨t, rfl⟩ := h
    simp
  · rw [if_neg h]
    have : ¬ (l.getLast?.map UInt8.toNat = some 61) := fun he => h (by
      unfold Lib.hasSuffix
      rw [List.isSuffixOf_iff_suffix]
      cases hg : l.getLast? with
      | none => rw [hg] at he; simp at he
      | some c =>
        rw [hg] at he
        have hc : c.toNat = 61 := by simpa using he
        have hc2 : c = 61 := UInt8.toNat_inj.1 hc
        subst hc2
        obtain ⟨ys, rfl⟩ := List.getLast?_eq_some_iff.1 hg
        exact ⟨ys, rfl⟩)
    rw [if_neg this]
theorem cut1_unf (l : List Nat) : Unf l (cut1 (cut1 l)) := by
  have key : ∀ l : List Nat, (l.getLast? = some 61 ∧ l = cut1 l ++ [61]) ∨ (l.getLast? ≠ some 61 ∧ cut1 l = l) := fun l => by
    by_cases h : l.getLast? = some 61
    · refine .inl ⟨h, ?_⟩
      rw [cut1, if_pos h]
      obtain ⟨ys, rfl⟩ := List.getLast?_eq_some_iff.1 h
      simp
    · exact .inr ⟨h, by rw [cut1, if_neg h]⟩
  rcases key l with ⟨h1, h2⟩ | ⟨h1, h2⟩
  · rcases key (cut1 l) with ⟨h3, h4⟩ | ⟨h3, h4⟩
    · refine ⟨2, by omega, ?_, fun h => by omega⟩
      rw [show List.replicate 2 61 = [61] ++ [61] from rfl, ← List.append_assoc, ← h4, ← h2]
    · refine ⟨1, by omega, ?_, fun _ => by rw [h4]; exact h3⟩
      rw [h4]; exact h2
  · rw [h2, h2]
    exact ⟨0, by omega, by simp, fun _ => h1⟩
theorem cut1_le (l : List Nat) : (cut1 l).length ≤ l.length := by
  unfold cut1; split
  · simp
  · exact Nat.le_refl _

set_option maxHeartbeats 800000 in
theorem unfilled_any (s : ByteArray) (w : World) (hs : s.size ≤ 1099511627776) :
    Calls Tryz.prog 209 #[.string s] w fun e w' => (∃ t : ByteArray, e = .returned (.string t) ∧ Unf (bsN s) (bsN t) ∧ t.size ≤ s.size) ∧ w' = w := by
  obtain ⟨t1, ht1⟩ : ∃ t1 : ByteArray, t1 = ⟨(Lib.trimSuffix s.data.toList [61]).toArray⟩ := ⟨_, rfl⟩
  obtain ⟨t2, ht2⟩ : ∃ t2 : ByteArray, t2 = ⟨(Lib.trimSuffix t1.data.toList [61]).toArray⟩ := ⟨_, rfl⟩
  have e1 : bsN t1 = cut1 (bsN s) := by rw [ht1]; exact trim_bs s
  have e2 : bsN t2 = cut1 (bsN t1) := by rw [ht2]; exact trim_bs t1
  have hl1 : t1.size ≤ s.size := by rw [← bsN_len, ← bsN_len, e1]; exact cut1_le _
  have hl2 : t2.size ≤ t1.size := by rw [← bsN_len, ← bsN_len, e2]; exact cut1_le _
  have hu : Unf (bsN s) (bsN t2) := by rw [e2, e1]; exact cut1_unf _
  have H1 := Lib.hid ht1
  have H2 := Lib.hid ht2
  have HU := Lib.hid hu
  clear ht1 ht2 e1 e2 hu
  go_enter Tryz.func209, Tryz.ntmps209
  go_wp2_with fail
  refine (Tryz.strings_TrimSuffix s ⟨#[61]⟩ _ (by omega)).mono ?_
  rintro e w1 ⟨rfl, rfl⟩
  rw [show (⟨#[61]⟩ : ByteArray).data.toList = [61] from rfl, ← H1.out]
  go_wp2_with fail
  refine (Tryz.strings_TrimSuffix t1 ⟨#[61]⟩ _ (by omega)).mono ?_
  rintro e w1 ⟨rfl, rfl⟩
  rw [show (⟨#[61]⟩ : ByteArray).data.toList = [61] from rfl, ← H2.out]
  go_wp2
  go_ret
  exact ⟨⟨t2, rfl, HU.out, by omega⟩, rfl⟩

def Un64Post (l : List Nat) (w : World) (e : Ending) (w' : World) : Prop :=
  Below w.heap.size w w' ∧ ∃ v k b, e = .returned (.tuple #[v, .int .i64 k]) ∧ own8 w' w.heap.size v b ∧ Un64Tells l k b ∧ b.length ≤ l.length
theorem Un64Post.no {l : List Nat} {w w' : World} (hb : Below w.heap.size w w') (h : Un64Tells l 61 []) : Un64Post l w (.returned (.tuple #[.slice none 0 0, .int .i64 61])) w' :=
  ⟨hb, _, _, [], rfl, World.ownsRow_nil _ _ _ _, h, Nat.zero_le _⟩
theorem and_small (a k : Nat) (hk : k ≤ 32) (h : a < 18446744073709551616) (c : Int) (hc : c = ((2 ^ k - 1 : Nat) : Int)) : bits BinOp.and IntKind.u64 (a : Int) c = ((a % 2 ^ k : Nat) : Int) := by
  subst hc
  have h2 : (2 : Nat) ^ k ≤ 2 ^ 32 := Nat.pow_le_pow_right (by decide) hk
  have h1 : (BitVec.ofInt 64 (a : Int)).toNat = a := by
    rw [BitVec.ofInt_natCast, BitVec.toNat_ofNat]; exact Nat.mod_eq_of_lt (by omega)
  have h3 : (BitVec.ofInt 64 ((2 ^ k - 1 : Nat) : Int)).toNat = 2 ^ k - 1 := by
    rw [BitVec.ofInt_natCast, BitVec.toNat_ofNat]; exact Nat.mod_eq_of_lt (by omega)
  show IntKind.u64.wrap ((BitVec.ofInt 64 (a : Int) &&& BitVec.ofInt 64 ((2 ^ k - 1 : Nat) : Int)).toNat : Int) = _
  rw [BitVec.toNat_and, h1, h3, Nat.and_two_pow_sub_one_eq_mod, IntKind.wrap_u64]
  have := Nat.mod_le a (2 ^ k)
  omega
/-- A row of bytes is no iterator's block. -/
theorem own_iter {w : World} {B n : Nat} {v : Value} {xs : List Value} {K : Nat} {s : ByteArray} {p : Nat} (h : w.ownsRow B 5 1 v n xs) (hk : w.heap[K]? = some (.stringIter s p)) : v.ownBlock ≠ some K := fun e => by
  rcases h.2 with ⟨rfl, _⟩ | ⟨g, c1, cur, rfl, _, hg, _⟩
  · cases e
  · have : g = K := by simpa [Value.ownBlock] using e
    subst this
    rw [hk] at hg
    cases hg

set_option maxHeartbeats 4000000 in
set_option maxRecDepth 100000 in
theorem un64_any (s : ByteArray) (n : Nat) (w : World) (hn : s.size = n) (hbig : n ≤ 1099511627776) (hT : BT w) :
    Calls Tryz.prog 176 #[.string s] w (Un64Post (bsN s) w) := by
  have hbl := bsN_len s
  obtain ⟨l, hl⟩ : ∃ l, l = bsN s := ⟨_, rfl⟩
  rw [← hl] at hbl ⊢
  rw [hn] at hbl
  have HLS := Lib.hid hl
  have HT0 := Lib.hid hT
  have HLN := Lib.hid hbl
  clear hT
  by_cases hodd : n % 4 = 0
  case neg =>
    have hq : ((n : Int) % 4 != 0) = true := by simp; omega
    have HP := Lib.hid (un64_len (l := l) (by rw [hbl]; exact hodd))
    clear hl hbl
    go_enter Tryz.func176, Tryz.ntmps176
    go_wp2
    go_ret2
    exact Un64Post.no (Below.refl _ _) HP.out
  have hq : ((n : Int) % 4 != 0) = false := by simp; omega
  have HOD := Lib.hid hodd
  clear hl hbl hodd
  go_enter Tryz.func176, Tryz.ntmps176
  go_wp2_with (first
    | (at_make; refine wpl_room8 rfl _ _ rfl w.heap.size _ _ _ (n / 4 * 3) rfl rfl (by omega) (by omega) (Nat.le_refl _) ?_; intro w1 hown1 hb1 hlt1)
    | (go_at_call 209; refine (unfilled_any s _ (by omega)).mono ?_; rintro e w2 ⟨⟨t, rfl, hU, htn⟩, rfl⟩))
  have hit1 := World.iter_heap w2 t 0
  have hown2 := World.ownsRow.alloc hown1 (.stringIter t 0)
  have hb2 : Below w.heap.size w (w2.iter t 0) := hb1.alloc (by omega) _
  have HI := Lib.hid hit1
  have HO := Lib.hid hown2
  have HB := Lib.hid hb2
  have hgl : w.heap.size < w2.heap.size := hlt1
  clear hit1 hown1 hown2 hb1 hb2 hlt1
  obtain ⟨K, hK⟩ : ∃ K, K = w2.heap.size := ⟨_, rfl⟩
  rw [← hK] at HI hgl ⊢
  clear hK
  obtain ⟨u, hu⟩ : ∃ u, u = bsN t := ⟨_, rfl⟩
  obtain ⟨m, hm⟩ : ∃ m, m = t.size := ⟨_, rfl⟩
  have hul : u.length = m := by rw [hu, bsN_len, hm]
  have hmn : m ≤ n := by omega
  rw [← hu, ← HLS.out] at hU
  have HU := Lib.hid hU
  have HUU := Lib.hid hu
  have HUL := Lib.hid hul
  have HM := Lib.hid hm
  have htm : t.size = m := hm.symm
  clear hU hu hul hm htn
  go_loopw [4, 5, 6] (fun v bv hv wr => ∃ (p : Nat) (ws o : List Nat) (b h : Nat), p ≤ m ∧ bv = .int .u64 (b : Nat) ∧ hv = .int .i64 (h : Nat) ∧ Hid (h = 6 * p % 8) ∧ Hid (ws.length = p) ∧ Hid (D64 ws) ∧ Hid (ws.map b64D = u.take p) ∧ Hid (dec ws = (o, b)) ∧
    Hid (wr.heap[K]? = some (.stringIter t p)) ∧ Hid (wr.ownsRow w.heap.size 5 1 v o.length (u8s o)) ∧ Hid (Below w.heap.size w wr)) (fun _ _ _ wr => m - wr.iterPos K)
  case atStart => exact ⟨0, [], [], 0, 0, Nat.zero_le _, rfl, rfl, rfl, rfl, (fun x hx => by cases hx), rfl, rfl, HI.out, HO.out, HB.out⟩
  case round =>
    obtain ⟨p, ws, o, b, h, hp, rfl, rfl, HH, HW, HD, HWM, HDC, HI, HO, HB⟩ := hrel
    have hitp : wr.iterPos K = p := by simp [World.iterPos, HI.out]
    by_cases hpn : p < m
    · have hsz := (Array.getElem?_eq_some_iff.1 HI.out).1
      have hps : p < t.size := by omega
      obtain ⟨c, hc⟩ : ∃ c, c = (t[p]'hps).toNat := ⟨_, rfl⟩
      have hat : at0 u p = c := by rw [HUU.out, bsN_at t p hps, hc]
      have HAT := Lib.hid hat
      have hki := own_iter HO.out HI.out
      have HKI := Lib.hid hki
      clear hat hki
      by_cases hc7 : c < 128
      · have hnx0 := fun ty => Lib.run_next_ascii_at (P := Tryz.prog) wr K t p ty HI.out hps (by omega)
        rw [← hc] at hnx0
        obtain ⟨w2, hw2⟩ : ∃ w2, w2 = wr.iterAt K t (p + 1) := ⟨_, rfl⟩
        have c2 : Chg (fun i => i = K) wr w2 := by rw [hw2]; exact Chg.iterAt wr K t (p + 1)
        have HI2 : Hid (w2.heap[K]? = some (.stringIter t (p + 1))) := by show _ = _; rw [hw2]; exact Lib.iterAt_heap wr K t p (p + 1) HI.out
        have HO2 := Lib.hid (c2.owns HO.out (fun k hk e => by subst e; exact HKI.out hk))
        have HB2 := Lib.hid (HB.out.trans (c2.below HB.out.size (fun k hk => by omega)))
        have HT2 := Lib.hid (HT0.out.below HB2.out)
        have hsz2 : K < w2.heap.size := by have := c2.size; omega
        rw [← hw2] at hnx0
        have hnx : ∀ ty, (Instr.next (.pointer (some ⟨K, 0, none⟩)) true ty).run Tryz.prog wr = _ := hnx0
        clear hnx0 hw2 c2 hc HI HO HB
        rcases bw_cases c hc7 with ⟨h1, h2⟩ | ⟨d, hd, h1, h2⟩
        · have HN := Lib.hid (un64_no HU.out (i := p) (by rw [HUL.out]; exact hpn) (by rw [HAT.out]; exact h2))
          have H1 := Lib.hid h1
          clear h1 h2
          go_wp2_with (go_at_call 210; refine (w64_no c _ hc7 HT2.out H1.out).mono ?_; rintro e w3 ⟨rfl, rfl⟩)
          go_ret2
          exact Un64Post.no HB2.out HN.out
        · have H1 := Lib.hid h1
          have hwm : Hid ((ws ++ [d]).map b64D = u.take (p + 1)) := by
            show _ = _
            rw [List.map_append, HWM.out, take_succ_at0 (by rw [HUL.out]; exact hpn), HAT.out]
            simp [h2]
          have HWL : Hid ((ws ++ [d]).length = p + 1) := by show _ = _; rw [List.length_append, HW.out]; rfl
          have HDS : Hid (D64 (ws ++ [d])) := HD.out.snoc hd
          have hol : o.length ≤ m := by have := dec_len ws; rw [HDC.out, HW.out] at this; simp at this; omega
          have hBs := HB2.out.size
          have hsn := dec_snoc ws d HD.out hd
          rw [HW.out, HDC.out] at hsn
          simp only [] at hsn
          obtain ⟨y, hy⟩ : ∃ y, y = b * 64 + d := ⟨_, rfl⟩
          rw [← hy] at hsn
          have hh := HH.out
          clear h1 h2
          rcases hsn with ⟨g1, g2, g3⟩ | ⟨g1, g2, g3⟩ | ⟨g1, g2, g3⟩ | ⟨g1, g2, g3⟩
          · subst g2
            obtain rfl : h = 0 := by omega
            have e0 : bits BinOp.or IntKind.u64 0 (d : Int) = (d : Int) := by
              have := or_low8 0 d 8 (by decide) (by omega) (by decide)
              simpa using this
            have HH2 : Hid (6 = 6 * (p + 1) % 8) := by show _ = _; omega
            have G3 := Lib.hid g3
            clear g1 g3 hh hy
            go_wp2_with (go_at_call 210; refine (w64_yes c d _ hc7 HT2.out hd H1.out).mono ?_; rintro e w3 ⟨rfl, rfl⟩)
            go_roundw
            case rel => exact ⟨p + 1, ws ++ [d], o, d, 6, by omega, rfl, rfl, HH2.out, HWL.out, HDS.out, hwm.out, G3.out, HI2.out, HO2.out, HB2.out⟩
            case measure =>
              have : ∀ W : World, W.heap[K]? = some (.stringIter t (p + 1)) → W.iterPos K = p + 1 := fun W h => by simp [World.iterPos, h]
              rw [this _ HI2.out, hitp]
              omega
          · obtain rfl : h = 6 := by omega
            have e0 : bits BinOp.or IntKind.u64 ((b : Int) * 64) (d : Int) = (y : Int) := by rw [hy]; exact or_low8 b d 6 (by decide) (by omega) (by omega)
            have hyb : y < 4096 := by omega
            obtain ⟨z, hz⟩ : ∃ z, z = y / 16 := ⟨_, rfl⟩
            obtain ⟨r, hr⟩ : ∃ r, r = y % 16 := ⟨_, rfl⟩
            have e1 : (y : Int) / 16 = (z : Int) := by omega
            have e2 : bits BinOp.and IntKind.u64 (y : Int) 15 = (r : Int) := by rw [hr]; exact and_small y 4 (by decide) (by omega) _ rfl
            have hz8 : z < 256 := by omega
            rw [← hz, ← hr] at g3
            have HH2 : Hid (4 = 6 * (p + 1) % 8) := by show _ = _; omega
            have hw8 : IntKind.u8.wrap (z : Int) = (z : Int) := wrap_u8_in z hz8
            have G3 := Lib.hid g3
            clear g1 g3 hh hy hz hr
            go_wp2_with (first
              | (go_at_call 210; refine (w64_yes c d _ hc7 HT2.out hd H1.out).mono ?_; rintro e w3 ⟨rfl, rfl⟩)
              | (at_builtin; refine wpl_app 40 5 Tryz.underlying40 info8 rfl (by decide) rfl _ _ rfl w.heap.size _ o.length (u8s o) rfl (HO2.out.alloc _) w2.heap.size _ rfl (World.cell?_alloc_at _ _ _ _ rfl) rfl (by omega) (by simp; omega) ?_; intro g cap' w5 hown5 hg5 hBg _ _))
            have hO6 : w5.ownsRow w.heap.size 5 1 (.slice (some ⟨g, 0, none⟩) (o.length + 1) cap') (o ++ [z]).length (u8s (o ++ [z])) := by rw [show u8s (o ++ [z]) = u8s o ++ [.int .u8 (z : Nat)] by simp [u8s], len_snoc]; exact hown5
            have hB6 : Below w.heap.size w w5 := (HB2.out.alloc hBs _).grown hg5 (by simp; omega) (fun j hj => (World.ownsRow.lt HO2.out j hj).1)
            have hI6 : w5.heap[K]? = some (.stringIter t (p + 1)) := by
              refine (Chg.of_grown hg5).heap ?_ (fun e => HKI.out e.symm)
              exact ((Chg.refl (fun _ => False) w2).alloc _).heap HI2.out (fun h => h)
            have HO6 := Lib.hid hO6
            have HB6 := Lib.hid hB6
            have HI6 := Lib.hid hI6
            clear hO6 hB6 hI6 hg5 hown5
            go_roundw
            case rel => exact ⟨p + 1, ws ++ [d], o ++ [z], r, 4, by omega, rfl, rfl, HH2.out, HWL.out, HDS.out, hwm.out, G3.out, HI6.out, HO6.out, HB6.out⟩
            case measure =>
              have : ∀ W : World, W.heap[K]? = some (.stringIter t (p + 1)) → W.iterPos K = p + 1 := fun W h => by simp [World.iterPos, h]
              rw [this _ HI6.out, hitp]
              omega
          · obtain rfl : h = 4 := by omega
            have e0 : bits BinOp.or IntKind.u64 ((b : Int) * 64) (d : Int) = (y : Int) := by rw [hy]; exact or_low8 b d 6 (by decide) (by omega) (by omega)
            have hyb : y < 1024 := by omega
            obtain ⟨z, hz⟩ : ∃ z, z = y / 4 := ⟨_, rfl⟩
            obtain ⟨r, hr⟩ : ∃ r, r = y % 4 := ⟨_, rfl⟩
            have e1 : (y : Int) / 4 = (z : Int) := by omega
            have e2 : bits BinOp.and IntKind.u64 (y : Int) 3 = (r : Int) := by rw [hr]; exact and_small y 2 (by decide) (by omega) _ rfl
            have hz8 : z < 256 := by omega
            rw [← hz, ← hr] at g3
            have HH2 : Hid (2 = 6 * (p + 1) % 8) := by show _ = _; omega
            have hw8 : IntKind.u8.wrap (z : Int) = (z : Int) := wrap_u8_in z hz8
            have G3 := Lib.hid g3
            clear g1 g3 hh hy hz hr
            go_wp2_with (first
              | (go_at_call 210; refine (w64_yes c d _ hc7 HT2.out hd H1.out).mono ?_; rintro e w3 ⟨rfl, rfl⟩)
              | (at_builtin; refine wpl_app 40 5 Tryz.underlying40 info8 rfl (by decide) rfl _ _ rfl w.heap.size _ o.length (u8s o) rfl (HO2.out.alloc _) w2.heap.size _ rfl (World.cell?_alloc_at _ _ _ _ rfl) rfl (by omega) (by simp; omega) ?_; intro g cap' w5 hown5 hg5 hBg _ _))
            have hO6 : w5.ownsRow w.heap.size 5 1 (.slice (some ⟨g, 0, none⟩) (o.length + 1) cap') (o ++ [z]).length (u8s (o ++ [z])) := by rw [show u8s (o ++ [z]) = u8s o ++ [.int .u8 (z : Nat)] by simp [u8s], len_snoc]; exact hown5
            have hB6 : Below w.heap.size w w5 := (HB2.out.alloc hBs _).grown hg5 (by simp; omega) (fun j hj => (World.ownsRow.lt HO2.out j hj).1)
            have hI6 : w5.heap[K]? = some (.stringIter t (p + 1)) := by
              refine (Chg.of_grown hg5).heap ?_ (fun e => HKI.out e.symm)
              exact ((Chg.refl (fun _ => False) w2).alloc _).heap HI2.out (fun h => h)
            have HO6 := Lib.hid hO6
            have HB6 := Lib.hid hB6
            have HI6 := Lib.hid hI6
            clear hO6 hB6 hI6 hg5 hown5
            go_roundw
            case rel => exact ⟨p + 1, ws ++ [d], o ++ [z], r, 2, by omega, rfl, rfl, HH2.out, HWL.out, HDS.out, hwm.out, G3.out, HI6.out, HO6.out, HB6.out⟩
            case measure =>
              have : ∀ W : World, W.heap[K]? = some (.stringIter t (p + 1)) → W.iterPos K = p + 1 := fun W h => by simp [World.iterPos, h]
              rw [this _ HI6.out, hitp]
              omega
          · obtain rfl : h = 2 := by omega
            have e0 : bits BinOp.or IntKind.u64 ((b : Int) * 64) (d : Int) = (y : Int) := by rw [hy]; exact or_low8 b d 6 (by decide) (by omega) (by omega)
            have hyb : y < 256 := by omega
            obtain ⟨r, hr⟩ : ∃ r, r = 0 := ⟨_, rfl⟩
            have e2 : bits BinOp.and IntKind.u64 (y : Int) 0 = 0 := by
              have := and_small y 0 (by decide) (by omega) 0 rfl
              rw [this]
              omega
            have hz8 : y < 256 := by omega
            have HH2 : Hid (0 = 6 * (p + 1) % 8) := by show _ = _; omega
            have hw8 : IntKind.u8.wrap (y : Int) = (y : Int) := wrap_u8_in y hz8
            have G3 := Lib.hid g3
            clear g1 g3 hh hy hr
            go_wp2_with (first
              | (go_at_call 210; refine (w64_yes c d _ hc7 HT2.out hd H1.out).mono ?_; rintro e w3 ⟨rfl, rfl⟩)
              | (at_builtin; refine wpl_app 40 5 Tryz.underlying40 info8 rfl (by decide) rfl _ _ rfl w.heap.size _ o.length (u8s o) rfl (HO2.out.alloc _) w2.heap.size _ rfl (World.cell?_alloc_at _ _ _ _ rfl) rfl (by omega) (by simp; omega) ?_; intro g cap' w5 hown5 hg5 hBg _ _))
            have hO6 : w5.ownsRow w.heap.size 5 1 (.slice (some ⟨g, 0, none⟩) (o.length + 1) cap') (o ++ [y]).length (u8s (o ++ [y])) := by rw [show u8s (o ++ [y]) = u8s o ++ [.int .u8 (y : Nat)] by simp [u8s], len_snoc]; exact hown5
            have hB6 : Below w.heap.size w w5 := (HB2.out.alloc hBs _).grown hg5 (by simp; omega) (fun j hj => (World.ownsRow.lt HO2.out j hj).1)
            have hI6 : w5.heap[K]? = some (.stringIter t (p + 1)) := by
              refine (Chg.of_grown hg5).heap ?_ (fun e => HKI.out e.symm)
              exact ((Chg.refl (fun _ => False) w2).alloc _).heap HI2.out (fun h => h)
            have HO6 := Lib.hid hO6
            have HB6 := Lib.hid hB6
            have HI6 := Lib.hid hI6
            clear hO6 hB6 hI6 hg5 hown5
            go_roundw
            case rel => exact ⟨p + 1, ws ++ [d], o ++ [y], 0, 0, by omega, rfl, rfl, HH2.out, HWL.out, HDS.out, hwm.out, G3.out, HI6.out, HO6.out, HB6.out⟩
            case measure =>
              have : ∀ W : World, W.heap[K]? = some (.stringIter t (p + 1)) → W.iterPos K = p + 1 := fun W h => by simp [World.iterPos, h]
              rw [this _ HI6.out, hitp]
              omega
      · have hnx0 := fun ty => Lib.run_next_any_at (P := Tryz.prog) wr K t p ty HI.out hps
        have hr1 := (decode_high t p hps (by omega)).1
        have hr2 := decode_le t p
        obtain ⟨w2, hw2⟩ : ∃ w2, w2 = wr.iterAt K t (p + (Utf8.decode t p).2) := ⟨_, rfl⟩
        have c2 : Chg (fun i => i = K) wr w2 := by rw [hw2]; exact Chg.iterAt wr K t _
        have HB2 := Lib.hid (HB.out.trans (c2.below HB.out.size (fun k hk => by omega)))
        rw [← hw2] at hnx0
        generalize (Utf8.decode t p).1 = r at hnx0 hr1 hr2
        have hnx : ∀ ty, (Instr.next (.pointer (some ⟨K, 0, none⟩)) true ty).run Tryz.prog wr = _ := hnx0
        have HN := Lib.hid (un64_high HU.out (i := p) (by rw [HUL.out]; exact hpn) (by rw [HAT.out]; omega))
        clear hnx0 hw2 c2 hc HI HO HB
        go_wp2_with (go_at_call 210; refine (w64_high r _ (by omega) (by omega)).mono ?_; rintro e w3 ⟨rfl, rfl⟩)
        go_ret2
        exact Un64Post.no HB2.out HN.out
    · obtain rfl : p = m := by omega
      have hnx : ∀ ty, (Instr.next (.pointer (some ⟨K, 0, none⟩)) true ty).run Tryz.prog wr = _ := fun ty => Lib.run_next_end_at wr K t p ty HI.out (by omega)
      have hwu : ws.map b64D = u := by rw [HWM.out, List.take_of_length_le (by rw [HUL.out]; exact Nat.le_refl _)]
      have hol : o.length ≤ n := by have := dec_len ws; rw [HDC.out, HW.out] at this; simp at this; omega
      have HOL := Lib.hid hol
      by_cases hb0 : b = 0
      · have hy : Un64Tells l 0 o := by
          have := un64_yes HU.out (by rw [HLN.out]; exact HOD.out) HD.out hwu (by rw [HDC.out]; exact hb0)
          rwa [HDC.out] at this
        have HY := Lib.hid hy
        subst hb0
        clear hwu hy hol
        go_wp2
        go_ret2
        exact ⟨HB.out, _, _, o, rfl, HO.out, HY.out, by rw [HLN.out]; exact HOL.out⟩
      · have HN := Lib.hid (un64_bits HU.out HD.out hwu (by rw [HDC.out]; exact hb0))
        have hq2 : ((b : Int) != 0) = true := by simp; omega
        clear hwu hol
        go_wp2
        go_ret2
        exact Un64Post.no HB.out HN.out

/-- What one call of each of the readers gives, opened. -/
theorem UnhexPost.opens {l : List Nat} {w w' : World} {e : Ending} (h : UnhexPost l w e w') : ∃ (a : Option Addr) (c : Nat) (k : Int) (b : List Nat), e = .returned (.tuple #[.slice a b.length c, .int .i64 k]) ∧ Below w.heap.size w w' ∧ own8 w' w.heap.size (.slice a b.length c) b ∧ UnhexTells l k b ∧ b.length ≤ l.length ∧ b.length ≤ c ∧ Rd .u8 w' a b ∧ (a = none → c = 0) ∧ c ≤ 9223372036854775807 := by
  obtain ⟨hb, v, k, b, rfl, ho, ht, hl⟩ := h
  obtain ⟨a, c, rfl, h1, h2, h3, h4⟩ := own8_open ho
  exact ⟨a, c, k, b, rfl, hb, ho, ht, hl, h1, h2, h3, h4⟩
theorem Un64Post.opens {l : List Nat} {w w' : World} {e : Ending} (h : Un64Post l w e w') : ∃ (a : Option Addr) (c : Nat) (k : Int) (b : List Nat), e = .returned (.tuple #[.slice a b.length c, .int .i64 k]) ∧ Below w.heap.size w w' ∧ own8 w' w.heap.size (.slice a b.length c) b ∧ Un64Tells l k b ∧ b.length ≤ l.length ∧ b.length ≤ c ∧ Rd .u8 w' a b ∧ (a = none → c = 0) ∧ c ≤ 9223372036854775807 := by
  obtain ⟨hb, v, k, b, rfl, ho, ht, hl⟩ := h
  obtain ⟨a, c, rfl, h1, h2, h3, h4⟩ := own8_open ho
  exact ⟨a, c, k, b, rfl, hb, ho, ht, hl, h1, h2, h3, h4⟩

/-! Names: where a text's signs stand, by the library's words. -/
theorem index_list (l : List UInt8) (c : UInt8) : (Lib.indexByte l c = -1 ∧ c.toNat ∉ l.map UInt8.toNat) ∨
    ∃ i : Nat, Lib.indexByte l c = (i : Int) ∧ i < l.length ∧ l.map UInt8.toNat = (l.map UInt8.toNat).take i ++ c.toNat :: (l.map UInt8.toNat).drop (i + 1) ∧ c.toNat ∉ (l.map UInt8.toNat).take i := by
  induction l with
  | nil => exact .inl ⟨rfl, by simp⟩
  | cons b t ih =>
    unfold Lib.indexByte
    by_cases hbc : b = c
    · subst hbc
      exact .inr ⟨0, by simp, by simp, by simp, by simp⟩
    · have hn : (b == c) = false := by simpa using hbc
      have hne : b.toNat ≠ c.toNat := fun e => hbc (UInt8.toNat_inj.1 e)
      rw [hn]
      rcases ih with ⟨h1, h2⟩ | ⟨i, h1, h2, h3, h4⟩
      · refine .inl ⟨by simp [h1], ?_⟩
        rw [List.map_cons, List.mem_cons]
        rintro (h | h)
        · exact hne h.symm
        · exact h2 h
      · refine .inr ⟨i + 1, ?_, by simp; omega, ?_, ?_⟩
        · simp [h1]
        · simp only [List.map_cons, List.take_succ_cons, List.drop_succ_cons, List.cons_append]
          exact congrArg _ h3
        · rw [List.map_cons, List.take_succ_cons, List.mem_cons]
          rintro (h | h)
          · exact hne h.symm
          · exact h4 h
theorem last_list (s : ByteArray) (c : Nat) : (Lib.lastIndexByte s (c : Int) = -1 ∧ c ∉ bsN s) ∨
    ∃ i : Nat, Lib.lastIndexByte s (c : Int) = (i : Int) ∧ i < s.size ∧ bsN s = (bsN s).take i ++ c :: (bsN s).drop (i + 1) ∧ c ∉ (bsN s).drop (i + 1) := by
  have hat : ∀ j, j < s.size → ((s.data[j]!).toNat : Int) = ((bsN s).getD j 0 : Nat) := fun j hj => by
    have hj' : j < s.data.size := hj
    have h5 : s.data[j]? = some s.data[j] := Array.getElem?_eq_getElem hj'
    simp [bsN, List.getD, getElem!_pos s.data j hj', h5]
  have hlen : (bsN s).length = s.size := by simp [bsN]
  rcases Lib.lastIdx_spec s (c : Int) s.size with ⟨e, hn⟩ | ⟨i, hi, e, hc, hn⟩
  · refine .inl ⟨e, fun hm => ?_⟩
    obtain ⟨j, hj, he⟩ := List.mem_iff_getElem.1 hm
    rw [hlen] at hj
    refine hn j hj ?_
    rw [hat j hj, List.getD_eq_getElem?_getD, List.getElem?_eq_getElem (by omega)]
    simp [he]
  · refine .inr ⟨i, e, hi, ?_, fun hm => ?_⟩
    · rw [hat i hi, List.getD_eq_getElem?_getD, List.getElem?_eq_getElem (by omega)] at hc
      have hc' : (bsN s)[i]'(by omega) = c := by
        rw [Option.getD_some] at hc
        exact Int.ofNat_inj.1 hc
      rw [← hc', ← List.drop_eq_getElem_cons, List.take_append_drop]
    · obtain ⟨j, hj, he⟩ := List.mem_iff_getElem.1 hm
      rw [List.length_drop, hlen] at hj
      rw [List.getElem_drop] at he
      refine hn (i + 1 + j) (by omega) (by omega) ?_
      rw [hat _ (by omega), List.getD_eq_getElem?_getD, List.getElem?_eq_getElem (by omega)]
      simp [he]
theorem dropWhile_nil {α : Type} (p : α → Bool) : ∀ (l : List α), l.dropWhile p = [] ↔ ∀ x ∈ l, p x = true
  | [] => by simp
  | a :: t => by
    by_cases h : p a = true
    · rw [List.dropWhile_cons_of_pos h, dropWhile_nil p t]; simp [h]
    · rw [List.dropWhile_cons_of_neg h]; simp [h]
theorem trimS_nil (l cs : List UInt8) : Lib.trimS l cs = [] ↔ ∀ x ∈ l, cs.contains x = true := by
  unfold Lib.trimS Lib.trimLeftS
  rw [dropWhile_nil]
  constructor
  · intro h
    have h2 : Lib.trimRightS l cs = [] := by
      unfold Lib.trimRightS at h ⊢
      rcases hd : (l.reverse.dropWhile (cs.contains ·)) with _ | ⟨a, t⟩
      · rfl
      · rw [hd] at h
        have h3 := h a (by simp)
        have h4 := List.head_dropWhile_not (p := (cs.contains ·)) (l := l.reverse) (by rw [hd]; simp)
        simp only [hd, List.head_cons] at h4
        rw [h3] at h4; cases h4
    unfold Lib.trimRightS at h2
    have h3 : l.reverse.dropWhile (cs.contains ·) = [] := by simpa using h2
    rw [dropWhile_nil] at h3
    intro x hx
    exact h3 x (by simpa using hx)
  · intro h x hx
    have h3 : l.reverse.dropWhile (cs.contains ·) = [] := (dropWhile_nil _ _).2 (fun y hy => h y (by simpa using hy))
    unfold Lib.trimRightS at hx
    rw [h3] at hx
    simp at hx
def ldS : ByteArray := ⟨#[97, 98, 99, 100, 101, 102, 103, 104, 105, 106, 107, 108, 109, 110, 111, 112, 113, 114, 115, 116, 117, 118, 119, 120, 121, 122, 48, 49, 50, 51, 52, 53, 54, 55, 56, 57]⟩
set_option maxRecDepth 10000 in
theorem ld_has (x : UInt8) : ldS.data.toList.contains x = true ↔ isLD x.toNat := by
  have : ∀ n : Fin 256, (ldS.data.toList.contains (UInt8.ofNat n.val) = true ↔ isLD (UInt8.ofNat n.val).toNat) := by unfold isLD; decide +kernel
  have h := this ⟨x.toNat, x.toNat_lt⟩
  rwa [UInt8.ofNat_toNat] at h
theorem trim_plain (s : ByteArray) (h0 : s.data.toList ≠ []) : Lib.trimS s.data.toList ldS.data.toList = [] ↔ plainL (bsN s) := by
  rw [trimS_nil]
  unfold plainL bsN
  constructor
  · intro h
    refine ⟨by simpa using h0, fun c hc => ?_⟩
    obtain ⟨x, hx, rfl⟩ := List.mem_map.1 hc
    exact (ld_has x).1 (h x hx)
  · rintro ⟨_, h⟩ x hx
    exact (ld_has x).2 (h _ (List.mem_map.2 ⟨x, hx, rfl⟩))
theorem bsN_extract (s : ByteArray) (a b : Nat) : bsN (s.extract a b) = ((bsN s).drop a).take (b - a) := by
  unfold bsN
  rw [ByteArray.data_extract, Array.toList_extract]
  simp [List.map_take, List.map_drop, List.extract]
theorem bsN_app2 (s t : ByteArray) : bsN (s ++ t) = bsN s ++ bsN t := by
  unfold bsN
  rw [ByteArray.data_append]
  simp
theorem nam_yes {l f d p q : List Nat} (h1 : l = f ++ 58 :: d) (h2 : 58 ∉ f) (h3 : f = p ++ 45 :: q) (hq : q.map loA = hexW ∨ q.map loA = b64W) : NamF l f (p.map loA) (q.map loA) d :=
  ⟨h1, h2, by rw [h3, List.map_append, List.map_cons]; rfl, hq⟩
theorem nam_nocol {l f a e d : List Nat} (h : 58 ∉ l) : ¬ NamF l f a e d := fun g => h g.nocol
theorem nam_nodash {l f d f' a e d' : List Nat} (h1 : l = f ++ 58 :: d) (h2 : 58 ∉ f) (h3 : 45 ∉ f) : ¬ NamF l f' a e d' := fun g => by
  obtain ⟨rfl, _⟩ := first_one (h1.symm.trans g.1) h2 g.2.1
  exact h3 (mem45_lo.1 (by rw [g.2.2.1]; simp))
theorem nam_noenc {l f d p q f' a e d' : List Nat} (h1 : l = f ++ 58 :: d) (h2 : 58 ∉ f) (h3 : f = p ++ 45 :: q) (h4 : 45 ∉ q) (h5 : q.map loA ≠ hexW) (h6 : q.map loA ≠ b64W) : ¬ NamF l f' a e d' := fun g => by
  obtain ⟨rfl, _⟩ := first_one (h1.symm.trans g.1) h2 g.2.1
  have h7 : p.map loA ++ 45 :: q.map loA = a ++ 45 :: e := by rw [← g.2.2.1, h3, List.map_append, List.map_cons]; rfl
  obtain ⟨_, rfl⟩ := last_one h7 (fun hm => h4 (mem45_lo.1 hm)) (enc_45 g.2.2.2)
  rcases g.2.2.2 with h | h
  · exact h5 h
  · exact h6 h
end Go.Proofs.YtaookoejdnkkoaaGreatDoor
