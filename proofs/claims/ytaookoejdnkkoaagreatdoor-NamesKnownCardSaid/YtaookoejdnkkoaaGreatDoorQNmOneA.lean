import Derived.Test.YtaookoejdnkkoaaGreatDoorQNmOneS
namespace Go.Proofs.YtaookoejdnkkoaaGreatDoor
open Go.RowKit

/-! NamesOne, without the walk. -/
theorem kn_num (i : Nat) (hi : i < 4) : Num (knL i) (val (knL i)) ∧ Num (keL i) (val (keL i)) := by
  rcases (show i = 0 ∨ i = 1 ∨ i = 2 ∨ i = 3 by omega) with rfl | rfl | rfl | rfl <;>
    exact ⟨⟨by unfold Bd; decide +kernel, by unfold Cn; decide +kernel, rfl⟩, ⟨by unfold Bd; decide +kernel, by unfold Cn; decide +kernel, rfl⟩⟩
theorem kn_inj : ∀ i, i < 4 → ∀ k, k < 4 → val (knL i) = val (knL k) → i = k := by decide +kernel
/-- What is written of the i-th key. -/
structure KeyW (i : Nat) (b : List Nat) : Prop where
  b8 : B8 b
  len : 0 < b.length ∧ b.length ≤ 1046
  key : KeyB (val (knL i)) (val (keL i)) b
theorem KeyW.of {i : Nat} {b : List Nat} {k : Int} (hi : i < 4) (h : EncTells (val (knL i)) (val (keL i)) k b) : k = 0 ∧ KeyW i b := by
  have hk := kn_ok i hi
  rcases h with ⟨h1, h2, rfl, h3⟩ | ⟨h, _⟩
  · exact ⟨rfl, h3.b8, h3.len hk.lims.1 hk.lims.2, h3⟩
  · exact absurd hk.lims h
theorem KeyW.same {i k : Nat} {b c : List Nat} (h : KeyW i b) (g : KeyW k c) (hi : i < 4) (hk : k < 4) : keyW ++ hexL b = keyW ++ hexL c ↔ i = k := by
  have k1 := kn_ok i hi
  have k2 := kn_ok k hk
  constructor
  · intro e
    have e2 := hexL_inj b c h.b8 g.b8 (List.append_cancel_left e)
    subst e2
    have d1 := dec0_of h.key k1.lims.1 k1.lims.2
    rw [dec0_of g.key k2.lims.1 k2.lims.2] at d1
    exact (kn_inj k hk i hi (Prod.mk.inj (Prod.mk.inj d1).2).1).symm
  · rintro rfl
    rw [h.key.one g.key]
theorem KeyW.of_text {i : Nat} {b f e d : List Nat} (h : KeyW i b) (hi : i < 4) (hf : 58 ∉ f) (hl : f.map loA = rsaW ++ 45 :: e) (he : e = hexW ∨ e = b64W) (hs : (f ++ 58 :: d).length ≤ 65536) (hr : RdT e d 0 b) : OfTells (f ++ 58 :: d) 0 2 (keyW ++ hexL b) (knL i) (keL i) :=
  of_key hf hl he hs hr (kn_num i hi).1 (kn_num i hi).2 (kn_ok i hi) h.key
def kyS : ByteArray := ⟨#[114, 115, 97, 45, 104, 101, 120, 58]⟩
def k6S : ByteArray := ⟨#[114, 115, 97, 45, 98, 97, 115, 101, 54, 52, 58]⟩
/-- A key in hex, any letters of it great. -/
theorem KeyW.hex {i : Nat} {b r : List Nat} (h : KeyW i b) (hi : i < 4) (hc : Cs (bsN (kyS ++ strN (hexL b))) r) : OfTells r 0 2 (keyW ++ hexL b) (knL i) (keL i) ∧ r ≠ polW ∧ r.length = 8 + 2 * b.length ∧ B8 r := by
  have hB : bsN (kyS ++ strN (hexL b)) = (rsaW ++ 45 :: hexW) ++ 58 :: hexL b := by rw [bsN_app2, bsN_strN (hexL_8 h.b8)]; rfl
  have h8 := hc.b8 (bsN_8 _)
  rw [hB] at hc
  have hlen := hc.len
  have hl : ((rsaW ++ 45 :: hexW) ++ 58 :: hexL b).length = 8 + 2 * b.length := by
    rw [List.length_append, List.length_cons, hexL_len]; show 7 + _ = _; omega
  obtain ⟨f, d, rfl, hf, hl2, hd⟩ := hc.front (by decide)
  have := h.len
  refine ⟨h.of_text hi hf hl2 (.inl rfl) (by omega) (rd_hex h.b8 (hd.low (hexL_ld h.b8))), fun e => ?_, by omega, h8⟩
  have := congrArg List.length e
  have hp : polW.length = 6 := rfl
  omega
/-- A key in base64, any letters of its front great. -/
theorem KeyW.b64 {i : Nat} {b r : List Nat} (h : KeyW i b) (hi : i < 4) (hc : Cs (bsN k6S) r) : OfTells (r ++ b64L b) 0 2 (keyW ++ hexL b) (knL i) (keL i) ∧ r.length = 11 := by
  rw [show bsN k6S = (rsaW ++ 45 :: b64W) ++ 58 :: [] from rfl] at hc
  have hlen := hc.len
  obtain ⟨f, d, rfl, hf, hl2, hd⟩ := hc.front (by decide)
  have hd0 : d = [] := by cases d with | nil => rfl | cons => exact hd.elim
  subst hd0
  have := h.len
  have hl : (f ++ 58 :: ([] : List Nat)).length = 11 := by rw [hlen]; rfl
  rw [List.append_assoc]
  refine ⟨h.of_text (d := b64L b) hi hf hl2 (.inr rfl) ?_ (rd_b64 h.b8), hl⟩
  rw [List.length_append, List.length_cons, List.length_nil] at hl
  rw [List.length_append, List.length_cons, b64L_len]
  omega
/-- A front whose letters may be great, with the hex of a key. -/
theorem KeyW.hexo {i : Nat} {b r : List Nat} (h : KeyW i b) (hi : i < 4) (hc : Cs (bsN kyS) r) : OfTells (r ++ hexL b) 0 2 (keyW ++ hexL b) (knL i) (keL i) ∧ r.length = 8 := by
  rw [show bsN kyS = (rsaW ++ 45 :: hexW) ++ 58 :: [] from rfl] at hc
  have hlen := hc.len
  obtain ⟨f, d, rfl, hf, hl2, hd⟩ := hc.front (by decide)
  have hd0 : d = [] := by cases d with | nil => rfl | cons => exact hd.elim
  subst hd0
  have := h.len
  have hl : (f ++ 58 :: ([] : List Nat)).length = 8 := by rw [hlen]; rfl
  rw [List.append_assoc]
  refine ⟨h.of_text (d := hexL b) hi hf hl2 (.inl rfl) ?_ (rd_hex h.b8 (hexL_low h.b8)), hl⟩
  rw [List.length_append, List.length_cons, List.length_nil] at hl
  rw [List.length_append, List.length_cons, hexL_len]
  omega
theorem same_of {l l' T T' N E N' E' : List Nat} {kd kd' : Int} (h : OfTells l 0 kd T N E) (g : OfTells l' 0 kd' T' N' E') : SameT l l' (decide (T = T')) := .inr ⟨kd, T, N, E, 0, kd', T', N', E', h, g, by simp⟩
theorem KeyW.same_t {i k : Nat} {b c l l' N E N' E' : List Nat} {kd kd' : Int} (h : KeyW i b) (g : KeyW k c) (hi : i < 4) (hk : k < 4) (h1 : OfTells l 0 kd (keyW ++ hexL b) N E) (h2 : OfTells l' 0 kd' (keyW ++ hexL c) N' E') : SameT l l' (decide (i = k)) := by
  have := same_of h1 h2
  rw [show decide (keyW ++ hexL b = keyW ++ hexL c) = decide (i = k) from by rw [decide_eq_decide]; exact h.same g hi hk] at this
  exact this
theorem KeyW.same_p {i : Nat} {b l N E : List Nat} {kd : Int} (h : KeyW i b) (h1 : OfTells l 0 kd (keyW ++ hexL b) N E) : SameT l (bsN polS) false := by
  have := same_of h1 of_pol
  rw [show decide (keyW ++ hexL b = bsN polS) = false from decide_eq_false fun e => by
    have h3 := congrArg List.length e
    rw [List.length_append, hexL_len] at h3
    have h4 := h.len
    have : (bsN polS).length = 6 := rfl
    have : keyW.length = 8 := rfl
    omega] at this
  exact this
end Go.Proofs.YtaookoejdnkkoaaGreatDoor
