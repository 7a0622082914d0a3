import Derived.Test.YtaookoejdnkkoaaGreatDoorQ18
namespace Go.Proofs.YtaookoejdnkkoaaGreatDoor
open Go.RowKit

/-! NamesSigs, without a program. -/
theorem p_sig_is (s : ByteArray) (n : Nat) (w : World) (hn : s.size = n) (hbig : n ≤ 1099511627776) (hH : HT w) (hB : BT w) {k : Int} {p b : List Nat} (h : SigTells (bsN s) k p b) :
    Calls Tryz.prog 20 #[.string s] w fun e w' => Below w.heap.size w w' ∧ ∃ a c, e = .returned (.tuple #[.string (strN p), .slice a b.length c, .int .i64 k]) ∧ own8 w' w.heap.size (.slice a b.length c) b ∧ Rd .u8 w' a b := by
  refine (p_sig s n w hn hbig hH hB).mono ?_
  rintro e w' ⟨hb, a, c, k', p', b', rfl, ho, ht, -, -, hr, -⟩
  obtain ⟨rfl, rfl, rfl⟩ := ht.one h
  exact ⟨hb, a, c, rfl, ho, hr⟩
/-- A signature's front with its colon, in any letters, and what follows of it. -/
structure SgF (r : List Nat) (e : List Nat) : Prop where
  fr : ∃ f, r = f ++ [58] ∧ 58 ∉ f ∧ f.map loA = sigW ++ 45 :: e
  en : e = hexW ∨ e = b64W
theorem SgF.of {w r e : List Nat} (h : Cs (w ++ 58 :: []) r) (hw : ∀ c ∈ w, (c < 65 ∨ 90 < c) ∧ c ≠ 58) (he : w = sigW ++ 45 :: e) (hen : e = hexW ∨ e = b64W) : SgF r e := by
  obtain ⟨f, d', hr, h1, h2, h3⟩ := h.front hw
  have : d' = [] := by
    cases d' with
    | nil => rfl
    | cons _ _ => exact h3.elim
  subst this
  exact ⟨⟨f, hr, h1, h2.trans he⟩, hen⟩
theorem SgF.nam {r e : List Nat} (h : SgF r e) (d : List Nat) : ∃ f, r = f ++ [58] ∧ NamF (r ++ d) f sigW e d := by
  obtain ⟨f, rfl, h1, h2⟩ := h.fr
  exact ⟨f, rfl, by simp, h1, h2, h.en⟩
theorem SgF.yes {r e d b : List Nat} (h : SgF r e) (hr : RdT e d 0 b) (hl : (r ++ d).length ≤ 65536) : SigTells (r ++ d) 0 r b := by
  obtain ⟨f, hf, hn⟩ := h.nam d
  exact .inr (.inr ⟨hl, f, e, d, hn, hr, by rw [if_pos rfl]; exact hf⟩)
theorem SgF.no {r e d : List Nat} (h : SgF r e) (hr : RdT e d 91 []) (hl : (r ++ d).length ≤ 65536) : SigTells (r ++ d) 91 [] [] := by
  obtain ⟨f, hf, hn⟩ := h.nam d
  exact .inr (.inr ⟨hl, f, e, d, hn, hr, (if_neg (by decide)).symm⟩)
theorem SgF.sp {r : List Nat} (l : List Nat) (hl : (32 :: l).length ≤ 65536) : SigTells (32 :: l) 90 r [] ↔ r = [] := by
  constructor
  · intro h
    rcases h with ⟨_, h, _⟩ | ⟨_, _, _, h, _⟩ | ⟨_, f, e, d, h, hr, hp⟩
    · omega
    · exact h
    · have := hr.kinds
      omega
  · rintro rfl
    refine .inr (.inl ⟨hl, fun f e d h => ?_, rfl, rfl, rfl⟩)
    obtain ⟨h1, h2, h3, _⟩ := h
    cases f with
    | nil => simp [sigW] at h3
    | cons x t =>
      simp only [List.cons_append, List.cons.injEq] at h1
      rw [← h1.1] at h3
      simp [sigW, loA] at h3
theorem rd_hex_sp {b : List Nat} : RdT hexW (hexL b ++ [32]) 91 [] := .inl ⟨rfl, 60, unhex_odd (by rw [List.length_append, hexL_len]; simp), rfl⟩
theorem rd_64_sp {b : List Nat} : RdT b64W (b64L b ++ [32]) 91 [] := .inr ⟨rfl, 61, .inr ⟨rfl, rfl, fun c _ he => by
  have := congrArg List.length he
  rw [b64L_len, List.length_append, b64L_len] at this
  simp at this
  omega⟩, rfl⟩
end Go.Proofs.YtaookoejdnkkoaaGreatDoor
