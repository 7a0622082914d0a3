import Derived.Test.YtaookoejdnkkoaaGreatDoorQ19
import Derived.Test.YtaookoejdnkkoaaGreatDoorQNmCased
import Derived.Test.YtaookoejdnkkoaaGreatDoorQNmSgA
namespace Go.Proofs.YtaookoejdnkkoaaGreatDoor
open Go.RowKit

/-! NamesSigs. -/
def sg1S : ByteArray := ⟨#[115, 105, 103, 45, 114, 115, 97, 45, 115, 104, 97, 49, 45, 104, 101, 120, 58]⟩
def sg2S : ByteArray := ⟨#[115, 105, 103, 45, 114, 115, 97, 45, 115, 104, 97, 49, 45, 98, 97, 115, 101, 54, 52, 58]⟩
theorem sgf1 {r : List Nat} (h : Cs (bsN sg1S) r) : SgF r hexW := SgF.of (w := sigW ++ 45 :: hexW) h (by decide) rfl (.inl rfl)
theorem sgf2 {r : List Nat} (h : Cs (bsN sg2S) r) : SgF r b64W := SgF.of (w := sigW ++ 45 :: b64W) h (by decide) rfl (.inr rfl)
/-- What is known of a text that is a front and data. -/
structure SgT (F S : ByteArray) (r b : List Nat) : Prop where
  yes : SigTells (bsN S) 0 r b
  sp : SigTells (bsN (⟨#[32]⟩ ++ S)) 90 [] []
  no : SigTells (bsN (S ++ ⟨#[32]⟩)) 91 [] []
  fs : strN r = F
theorem SgT.mk' {F X : ByteArray} {r e b d : List Nat} (h : SgF r e) (hF : F = strN r) (h8 : B8 r) (hX : bsN X = d) (hr : RdT e d 0 b) (hn : RdT e (d ++ [32]) 91 []) (hl : r.length + d.length ≤ 60000) : SgT F (F ++ X) r b := by
  have hB : bsN (F ++ X) = r ++ d := by rw [bsN_app2, hX, hF, bsN_strN h8]
  refine ⟨?_, ?_, ?_, hF.symm⟩
  · rw [hB]; exact h.yes hr (by simp; omega)
  · rw [bsN_app2, hB, show bsN ⟨#[32]⟩ = [32] from rfl]; exact (SgF.sp (r := []) (r ++ d) (by simp; omega)).2 rfl
  · rw [bsN_app2, hB, show bsN ⟨#[32]⟩ = [32] from rfl, List.append_assoc]; exact h.no hn (by simp; omega)
set_option maxHeartbeats 4000000 in
set_option maxRecDepth 100000 in
theorem namesSigs_any (a : Option Addr) (len cap : Nat) (b : List Nat) (x : Nat) (w : World) (hl : b.length = len) (hcap : len ≤ cap) (hcm : cap ≤ 9223372036854775807) (hna : a = none → cap = 0) (h8 : B8 b) (hr : Rd .u8 w a b) (hH : HT w) (hB : BT w) :
    Calls Tryz.prog 54 #[.slice a len cap, .int .u64 (x : Nat)] w fun e w' => e = .returned (.bool true) ∧ Below w.heap.size w w' := by
  by_cases hbig : 1024 < len
  · have hq : decide ((1024 : Int) < (len : Int)) = true := decide_eq_true (by omega)
    clear hr hH hB
    go_enter Tryz.func54, Tryz.ntmps54
    go_wp2
    go_ret
    exact ⟨rfl, Below.refl _ _⟩
  have hq : decide ((1024 : Int) < (len : Int)) = false := decide_eq_false (by omega)
  have NS := Lib.hid (NE.start hH hB)
  have HR := Lib.hid hr
  have H8 := Lib.hid h8
  have HL := Lib.hid hl
  have HNA := Lib.hid hna
  clear hH hB hr h8 hl hna
  go_enter Tryz.func54, Tryz.ntmps54
  go_wp2_with fail
  refine (cased_any sg1S 17 x _ rfl (by decide)).mono ?_
  rintro e w1 ⟨⟨r1, hc1, rfl⟩, hb⟩
  have NS := Lib.hid (NS.out.below hb)
  have HR := Lib.hid (HR.out.below hb)
  have H1 := Lib.hid (sgf1 hc1)
  have H18 : Hid (B8 r1) := hc1.b8 (bsN_8 _)
  have hl1 : r1.length = 17 := hc1.len
  obtain ⟨F1, hF1⟩ : ∃ F, F = strN r1 := ⟨_, rfl⟩
  have hs1 : F1.size = 17 := by rw [hF1, strN_size, hl1]
  have HF1 := Lib.hid hF1
  have HL1 := Lib.hid hl1
  rw [← hF1]
  clear hb hc1 hF1 hl1
  go_wp2_with fail
  refine (cased_any sg2S 20 x _ rfl (by decide)).mono ?_
  rintro e w2 ⟨⟨r2, hc2, rfl⟩, hb⟩
  have NS := Lib.hid (NS.out.below hb)
  have HR := Lib.hid (HR.out.below hb)
  have H2 := Lib.hid (sgf2 hc2)
  have H28 : Hid (B8 r2) := hc2.b8 (bsN_8 _)
  have hl2 : r2.length = 20 := hc2.len
  obtain ⟨F2, hF2⟩ : ∃ F, F = strN r2 := ⟨_, rfl⟩
  have hs2 : F2.size = 20 := by rw [hF2, strN_size, hl2]
  have HF2 := Lib.hid hF2
  have HL2 := Lib.hid hl2
  rw [← hF2]
  clear hb hc2 hF2 hl2
  obtain ⟨W2, hW2⟩ : ∃ W, W = w2.alloc (.cells #[.string F1, .string F2] 9) := ⟨_, rfl⟩
  have hb2 : Below w2.heap.size w2 W2 := by rw [hW2]; exact (Below.refl _ _).alloc (Nat.le_refl _) _
  have NS := Lib.hid (NS.out.below hb2)
  have HR := Lib.hid (HR.out.below hb2)
  have HC : Hid (CB W2 9 w2.heap.size [.string F1, .string F2]) := by show CB _ _ _ _; rw [hW2]; exact CB.new _ _ _
  have HWW := Lib.hid hW2
  clear hb2 hW2
  go_wp2
  rw [← HWW.out]
  clear HWW
  obtain ⟨g, hg⟩ : ∃ g, g = w2.heap.size := ⟨_, rfl⟩
  rw [← hg] at HC ⊢
  have HG := Lib.hid hg
  clear hg
  go_loopw [26] (fun iv wr => ∃ j : Nat, j ≤ 2 ∧ iv = .int .i64 (j : Nat) ∧ Hid (NE w [] [] wr) ∧ Hid (Rd .u8 wr a b) ∧ Hid (CB wr 9 g [.string F1, .string F2])) (fun iv _ => 2 - (intOf iv).toNat)
  case atStart => exact ⟨0, by omega, rfl, NS.out, HR.out, HC.out⟩
  case round =>
    obtain ⟨j, hj, rfl, NS, HR, HC⟩ := hrel
    obtain ⟨⟨k0, k1⟩, -⟩ := HC.out.two
    rcases (show j = 0 ∨ j = 1 ∨ j = 2 by omega) with rfl | rfl | rfl
    · obtain ⟨X, hX⟩ : ∃ X, X = strN (hexL b) := ⟨_, rfl⟩
      have hXs : X.size = 2 * len := by rw [hX, strN_size, hexL_len, HL.out]
      have hXB : bsN X = hexL b := by rw [hX]; exact bsN_strN (hexL_8 H8.out)
      have HX := Lib.hid hX
      have HT0 := SgT.mk' H1.out HF1.out H18.out hXB (rd_hex H8.out (hexL_low H8.out)) rd_hex_sp (by rw [HL1.out, hexL_len, HL.out]; omega)
      obtain ⟨S, hSS⟩ : ∃ S, S = F1 ++ X := ⟨_, rfl⟩
      have hS : S.size = 17 + 2 * len := by rw [hSS, ByteArray.size_append, hs1, hXs]
      rw [← hSS] at HT0
      have HT := Lib.hid HT0
      have HSS : F1 ++ X = S := hSS.symm
      have hq17 : decide ((17 : Int) < (17 : Int)) = false := by decide
      clear hX hXB HT0 hSS
      go_wp2_with fail
      refine (hex_any a len cap b _ HL.out (by omega) HR.out H8.out).mono ?_
      rintro e w3 ⟨rfl, hb⟩
      rw [← HX.out]
      have NS := Lib.hid (NS.out.below hb)
      have HR := Lib.hid (HR.out.below hb)
      have HC := Lib.hid (HC.out.below hb)
      clear hb
      go_wp2_with fail
      refine (p_sig_is S (17 + 2 * len) _ hS (by omega) NS.out.hh NS.out.bb HT.out.yes).mono ?_
      rw [HT.out.fs, HL.out]
      rintro e w4 ⟨hb, a1, c1, rfl, ho, hr1⟩
      have NS := Lib.hid (NS.out.below hb)
      have HR := Lib.hid (HR.out.below hb)
      have HR1 := Lib.hid hr1
      have HC := Lib.hid (HC.out.below hb)
      clear hb ho hr1
      go_wp2_with fail
      refine (p_sig_is (⟨#[32]⟩ ++ S) (1 + (17 + 2 * len)) _ (by rw [ByteArray.size_append, hS]; rfl) (by omega) NS.out.hh NS.out.bb HT.out.sp).mono ?_
      rintro e w5 ⟨hb, a2, c2, rfl, -, -⟩
      have NS := Lib.hid (NS.out.below hb)
      have HR := Lib.hid (HR.out.below hb)
      have HR1 := Lib.hid (HR1.out.below hb)
      have HC := Lib.hid (HC.out.below hb)
      clear hb
      go_wp2_with fail
      refine (p_sig_is (S ++ ⟨#[32]⟩) ((17 + 2 * len) + 1) _ (by rw [ByteArray.size_append, hS]; rfl) (by omega) NS.out.hh NS.out.bb HT.out.no).mono ?_
      rintro e w6 ⟨hb, a3, c3, rfl, -, -⟩
      have NS := Lib.hid (NS.out.below hb)
      have HR := Lib.hid (HR.out.below hb)
      have HR1 := Lib.hid (HR1.out.below hb)
      have HC := Lib.hid (HC.out.below hb)
      have e1 : (F1.toList == F1.toList) = true := by simp
      clear hb
      go_wp2_with fail
      refine (bytes_same a a1 len cap c1 b _ HL.out (by omega) HR.out HR1.out).mono ?_
      rintro e w7 ⟨rfl, nq, hw⟩
      have hb : Below w6.heap.size w6 w7 := by rw [hw]; exact Below.drewM (Below.refl _ _) nq
      have NS := Lib.hid (NS.out.below hb)
      have HR := Lib.hid (HR.out.below hb)
      have HC := Lib.hid (HC.out.below hb)
      clear hb hw
      go_wp2
      go_roundw
      case rel => exact ⟨1, by omega, rfl, NS.out, HR.out, HC.out⟩
      case measure => simp [intOf]
    · obtain ⟨X, hX⟩ : ∃ X, X = strN (hexL b) := ⟨_, rfl⟩
      have hXs : X.size = 2 * len := by rw [hX, strN_size, hexL_len, HL.out]
      have HX := Lib.hid hX
      obtain ⟨Y, hY⟩ : ∃ Y, Y = strN (b64L b) := ⟨_, rfl⟩
      obtain ⟨q, hq4⟩ : ∃ q, q = (len + 2) / 3 * 4 := ⟨_, rfl⟩
      have hqb : q ≤ 2000 := by omega
      have hYs : Y.size = q := by rw [hY, strN_size, b64L_len, HL.out, hq4]
      have hYB : bsN Y = b64L b := by rw [hY]; exact bsN_strN (b64L_8 H8.out)
      have HY := Lib.hid hY
      have HT0 := SgT.mk' H2.out HF2.out H28.out hYB (rd_b64 H8.out) rd_64_sp (by rw [HL2.out, b64L_len, HL.out]; omega)
      obtain ⟨S, hSS⟩ : ∃ S, S = F2 ++ Y := ⟨_, rfl⟩
      have hS : S.size = 20 + q := by rw [hSS, ByteArray.size_append, hs2, hYs]
      rw [← hSS] at HT0
      have HT := Lib.hid HT0
      have HSS : F2 ++ Y = S := hSS.symm
      have hq17 : decide ((17 : Int) < (20 : Int)) = true := by decide
      clear hX hY hYB HT0 hSS hq4
      go_wp2_with fail
      refine (hex_any a len cap b _ HL.out (by omega) HR.out H8.out).mono ?_
      rintro e w3 ⟨rfl, hb⟩
      rw [← HX.out]
      have NS := Lib.hid (NS.out.below hb)
      have HR := Lib.hid (HR.out.below hb)
      have HC := Lib.hid (HC.out.below hb)
      clear hb
      go_wp2_with fail
      refine (base64_any a len cap b _ HL.out (by omega) hcap hcm HNA.out HR.out H8.out).mono ?_
      rintro e w8 ⟨rfl, hb⟩
      rw [← HY.out]
      have NS := Lib.hid (NS.out.below hb)
      have HR := Lib.hid (HR.out.below hb)
      have HC := Lib.hid (HC.out.below hb)
      clear hb
      go_wp2_with fail
      refine (p_sig_is S (20 + q) _ hS (by omega) NS.out.hh NS.out.bb HT.out.yes).mono ?_
      rw [HT.out.fs, HL.out]
      rintro e w4 ⟨hb, a1, c1, rfl, ho, hr1⟩
      have NS := Lib.hid (NS.out.below hb)
      have HR := Lib.hid (HR.out.below hb)
      have HR1 := Lib.hid hr1
      have HC := Lib.hid (HC.out.below hb)
      clear hb ho hr1
      go_wp2_with fail
      refine (p_sig_is (⟨#[32]⟩ ++ S) (1 + (20 + q)) _ (by rw [ByteArray.size_append, hS]; rfl) (by omega) NS.out.hh NS.out.bb HT.out.sp).mono ?_
      rintro e w5 ⟨hb, a2, c2, rfl, -, -⟩
      have NS := Lib.hid (NS.out.below hb)
      have HR := Lib.hid (HR.out.below hb)
      have HR1 := Lib.hid (HR1.out.below hb)
      have HC := Lib.hid (HC.out.below hb)
      clear hb
      go_wp2_with fail
      refine (p_sig_is (S ++ ⟨#[32]⟩) ((20 + q) + 1) _ (by rw [ByteArray.size_append, hS]; rfl) (by omega) NS.out.hh NS.out.bb HT.out.no).mono ?_
      rintro e w6 ⟨hb, a3, c3, rfl, -, -⟩
      have NS := Lib.hid (NS.out.below hb)
      have HR := Lib.hid (HR.out.below hb)
      have HR1 := Lib.hid (HR1.out.below hb)
      have HC := Lib.hid (HC.out.below hb)
      have e1 : (F2.toList == F2.toList) = true := by simp
      clear hb
      go_wp2_with fail
      refine (bytes_same a a1 len cap c1 b _ HL.out (by omega) HR.out HR1.out).mono ?_
      rintro e w7 ⟨rfl, nq, hw⟩
      have hb : Below w6.heap.size w6 w7 := by rw [hw]; exact Below.drewM (Below.refl _ _) nq
      have NS := Lib.hid (NS.out.below hb)
      have HR := Lib.hid (HR.out.below hb)
      have HC := Lib.hid (HC.out.below hb)
      clear hb hw
      go_wp2
      go_roundw
      case rel => exact ⟨2, by omega, rfl, NS.out, HR.out, HC.out⟩
      case measure => simp [intOf]
    · go_wp2_with fail
      refine (works9 _ NS.out.hh NS.out.bb).mono ?_
      rintro e w4 ⟨rfl, hb⟩
      have NS := Lib.hid (NS.out.below hb)
      clear hb
      go_wp2
      go_ret
      exact ⟨rfl, NS.out.bl⟩
end Go.Proofs.YtaookoejdnkkoaaGreatDoor
