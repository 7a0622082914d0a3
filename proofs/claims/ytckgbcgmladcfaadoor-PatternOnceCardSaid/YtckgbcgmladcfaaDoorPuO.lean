import Derived.Test.YtckgbcgmladcfaaDoorPuN
namespace Go.Proofs.YtckgbcgmladcfaaDoor
open Go.RowKit

/-! Print. -/
theorem grpT_len (g : Bool) (l : List Nat) : (grpT g l).length ≤ l.length + 2 := by unfold grpT; split <;> simp
theorem prt_len (t : PT) : (prt t).length + 3 ≤ 3000 * nodes t := by
  induction t using PT.ind with
  | h k s m n ps ih =>
    have hL : ∀ (g : Int → Bool) (sep : List Nat) (f : Bool), sep.length ≤ 1 → (prtL g sep f ps).length ≤ 3000 * nodesL ps := by
      intro g sep f hs
      clear k s m n
      induction ps generalizing f with
      | nil => simp [prtL]
      | cons t ts ih2 =>
        have h1 := ih t (by simp)
        have h2 := ih2 (fun x hx => ih x (List.mem_cons_of_mem _ hx)) false
        have h3 := grpT_len (g t.kind) (prt t)
        rw [prtL, nodesL, List.length_append, List.length_append]
        have h4 : (if f = true then [] else sep).length ≤ 1 := by split <;> simp [hs]
        omega
    have h1 := hL (fun k => !pieceK k) [] true (by simp)
    have h2 := hL choiceK [124] true (by simp)
    have h3 := setTxt_len s
    have h4 := signT_len m n
    rw [prt, nodes]
    split
    · omega
    · split
      · simp; omega
      · split
        · simp; omega
        · split
          · omega
          · split
            · omega
            · split
              · rw [List.length_append]; omega
              · simp; omega
theorem dep_le (t : PT) : dep t + 1 ≤ nodes t := by
  induction t using PT.ind with
  | h k s m n ps ih =>
    have hL : ∀ (g : Int → Bool), depL g ps ≤ nodesL ps := by
      intro g
      clear k s m n
      induction ps with
      | nil => simp [depL]
      | cons t ts ih2 =>
        have h1 := ih t (by simp)
        have h2 := ih2 (fun x hx => ih x (List.mem_cons_of_mem _ hx))
        rw [depL, nodesL]
        have h4 : (if g t.kind = true then 1 else 0) ≤ 1 := by split <;> simp
        omega
    have h1 := hL (fun k => !pieceK k)
    have h2 := hL choiceK
    rw [dep, nodes]
    split
    · omega
    · split <;> omega
/-- What Print answers. -/
def prnS (t : PT) : List Nat := if chk t = 0 ∧ (prt t).length ≤ 1024 ∧ dep t ≤ 64 then prt t else []
def prnE (t : PT) : Int := if chk t = 0 then (if (prt t).length ≤ 1024 ∧ dep t ≤ 64 then 0 else 3) else chk t
theorem chk_zero {t : PT} (h : chk t = 0) : nodes t ≤ 2048 ∧ may t = true := by
  unfold chk at h
  split at h
  · cases h
  · split at h
    · rename_i h1 h2; exact ⟨by omega, h2⟩
    · cases h
theorem empty_strN : (⟨#[]⟩ : ByteArray) = strN [] := rfl
set_option maxHeartbeats 1500000 in
set_option maxRecDepth 100000 in
theorem p_Print (t : NT) (w : World) (hn : t.num) (hl : t.Lies w) (hT : Tb w) : Calls Tryd.prog 8 #[t.val] w fun e w' => e = .returned (.tuple #[.string (strN (prnS t.pt)), .int .i64 (prnE t.pt)]) ∧ Below w.heap.size w w' ∧ B8 (prnS t.pt) := by
  have hck := fun W (hW : Below w.heap.size w W) => p_Check t W hn (hl.below hW)
  obtain ⟨e0, he0⟩ : ∃ e0, chk t.pt = e0 := ⟨_, rfl⟩
  rw [he0] at hck
  have hcz : e0 = 0 → nodes t.pt ≤ 2048 ∧ may t.pt = true := fun h => chk_zero (he0.trans h)
  have hpl := prt_len t.pt
  have hdl := dep_le t.pt
  have hnode := fun wb (hwb : w.heap.size ≤ wb) (h1 : may t.pt = true) (h2 : nodes t.pt ≤ 1099511627776) => p_node wb w hwb hT t h1 hn h2 hl
  unfold NodeOK at hnode
  obtain ⟨P, hP⟩ : ∃ P, prt t.pt = P := ⟨_, rfl⟩
  obtain ⟨D, hD⟩ : ∃ D, dep t.pt = D := ⟨_, rfl⟩
  unfold prnS prnE
  rw [he0, hP, hD]
  rw [hP] at hpl
  rw [hD] at hdl
  simp only [hP, hD] at hnode
  obtain ⟨k, s, m, n, p, ps⟩ := t
  obtain ⟨⟨a, c, rfl, _⟩, _⟩ := NT.Lies_mk.1 hl
  have HCK : Hid (∀ W, Below w.heap.size w W → Calls Tryd.prog 9 #[nodeVal k s m n (.slice a ps.length c)] W fun e w' => e = .returned (.int .i64 e0) ∧ Below W.heap.size W w') := hck
  have HNODE : Hid (∀ wb, w.heap.size ≤ wb → e0 = 0 → ∀ (v : Value) (W : World), WC W wb [] 0 0 v → Below w.heap.size w W → Calls Tryd.prog 13 #[.pointer (some ⟨wb, 0, none⟩), nodeVal k s m n (.slice a ps.length c)] W fun e w' => Wrote wb v P 0 D W e w') := by
    intro wb hwb h0 v W hW hB
    obtain ⟨h1, h2⟩ := hcz h0
    have h9 := hnode wb hwb h2 (by omega) [] 0 0 v W hW hB (by omega) (by omega) (by simp only [List.length_nil]; omega) (by omega)
    rw [List.nil_append, show max 0 (0 + D) = D by omega] at h9
    exact h9
  have HPL : Hid (e0 = 0 → P.length < 1099511627776 ∧ D < 1099511627776) := fun h => by have := hcz h; omega
  show Calls Tryd.prog 8 #[nodeVal k s m n (.slice a ps.length c)] w _
  generalize ps.length = len at HCK HNODE ⊢
  clear hck hcz hnode hpl hdl hP hD he0 hn hl hT
  have HC : Hid (CB (w.alloc (.cells #[.int .i64 k, .int .u64 (s.a : Nat), .int .u64 (s.b : Nat), .int .u64 (s.c : Nat), .int .u64 (s.d : Nat), .int .i64 m, .int .i64 n, .slice a len c] 27)) 27 w.heap.size (nodeCells k s m n (.slice a len c))) := CB.new w _ _
  by_cases h0 : e0 = 0
  · subst h0
    obtain ⟨hPl, hDl⟩ := HPL.out rfl
    by_cases hlim : P.length ≤ 1024 ∧ D ≤ 64
    · obtain ⟨q1, q2⟩ := hlim
      rw [if_pos ⟨rfl, q1, q2⟩, if_pos rfl, if_pos ⟨q1, q2⟩]
      go_enter Tryd.func8, Tryd.ntmps8
      go_wp2_with (first | (go_at_call 9; refine (HCK.out _ ((Below.refl _ _).alloc (Nat.le_refl _) _)).mono ?_; rintro e w2 ⟨rfl, hb2⟩; have HB2 : Hid (Below w.heap.size w w2) := ((Below.refl _ _).alloc (Nat.le_refl _) _).trans (hb2.mono (by go_size)); obtain ⟨⟨c0, c1, c2, c3, c4, c5, c6, c7⟩, _⟩ := (CB.alloc (CB.below HC.out hb2) (.cells #[.slice none 0 0, .int .i64 0, .int .i64 0] 43)).eight; have HW2 : Hid (WC (w2.alloc (.cells #[.slice none 0 0, .int .i64 0, .int .i64 0] 43)) w2.heap.size [] 0 0 (.slice none 0 0)) := ⟨fun x hx => (by cases hx), CB.new w2 _ _, World.ownsRow_nil _ _ _ _⟩) | (go_at_call 13; go_loud (refine (HNODE.out _ HB2.out.size (by trivial) _ _ HW2.out (HB2.out.alloc HB2.out.size _)).mono ?_; rintro e w3 ⟨rfl, v3, hS3⟩; obtain ⟨ta, tc, rfl⟩ := own_slice hS3.at_.row; obtain ⟨⟨y0, y1, y2⟩, _⟩ := hS3.at_.cells; have hcv := own_text hS3.at_.row rfl 9 Tryd.underlying9; have HS3 := Lib.hid hS3; have HB3 := Lib.hid ((HB2.out.alloc HB2.out.size _).trans (hS3.low HW2.out HB2.out.size)); clear hS3)))
      go_ret2
      exact ⟨rfl, HB3.out, HS3.out.at_.b8⟩
    · rw [if_neg (fun h => hlim h.2), if_pos rfl, if_neg hlim]
      by_cases hq : 1024 < P.length
      · go_enter Tryd.func8, Tryd.ntmps8
        go_wp2_with (first | (go_at_call 9; refine (HCK.out _ ((Below.refl _ _).alloc (Nat.le_refl _) _)).mono ?_; rintro e w2 ⟨rfl, hb2⟩; have HB2 : Hid (Below w.heap.size w w2) := ((Below.refl _ _).alloc (Nat.le_refl _) _).trans (hb2.mono (by go_size)); obtain ⟨⟨c0, c1, c2, c3, c4, c5, c6, c7⟩, _⟩ := (CB.alloc (CB.below HC.out hb2) (.cells #[.slice none 0 0, .int .i64 0, .int .i64 0] 43)).eight; have HW2 : Hid (WC (w2.alloc (.cells #[.slice none 0 0, .int .i64 0, .int .i64 0] 43)) w2.heap.size [] 0 0 (.slice none 0 0)) := ⟨fun x hx => (by cases hx), CB.new w2 _ _, World.ownsRow_nil _ _ _ _⟩) | (go_at_call 13; go_loud (refine (HNODE.out _ HB2.out.size (by trivial) _ _ HW2.out (HB2.out.alloc HB2.out.size _)).mono ?_; rintro e w3 ⟨rfl, v3, hS3⟩; obtain ⟨ta, tc, rfl⟩ := own_slice hS3.at_.row; obtain ⟨⟨y0, y1, y2⟩, _⟩ := hS3.at_.cells; have hcv := own_text hS3.at_.row rfl 9 Tryd.underlying9; have HS3 := Lib.hid hS3; have HB3 := Lib.hid ((HB2.out.alloc HB2.out.size _).trans (hS3.low HW2.out HB2.out.size)); clear hS3)))
        go_ret2
        exact ⟨rfl, HB3.out, fun x hx => by cases hx⟩
      · have hq1 : P.length ≤ 1024 := by omega
        have hq2 : 64 < D := by omega
        go_enter Tryd.func8, Tryd.ntmps8
        go_wp2_with (first | (go_at_call 9; refine (HCK.out _ ((Below.refl _ _).alloc (Nat.le_refl _) _)).mono ?_; rintro e w2 ⟨rfl, hb2⟩; have HB2 : Hid (Below w.heap.size w w2) := ((Below.refl _ _).alloc (Nat.le_refl _) _).trans (hb2.mono (by go_size)); obtain ⟨⟨c0, c1, c2, c3, c4, c5, c6, c7⟩, _⟩ := (CB.alloc (CB.below HC.out hb2) (.cells #[.slice none 0 0, .int .i64 0, .int .i64 0] 43)).eight; have HW2 : Hid (WC (w2.alloc (.cells #[.slice none 0 0, .int .i64 0, .int .i64 0] 43)) w2.heap.size [] 0 0 (.slice none 0 0)) := ⟨fun x hx => (by cases hx), CB.new w2 _ _, World.ownsRow_nil _ _ _ _⟩) | (go_at_call 13; go_loud (refine (HNODE.out _ HB2.out.size (by trivial) _ _ HW2.out (HB2.out.alloc HB2.out.size _)).mono ?_; rintro e w3 ⟨rfl, v3, hS3⟩; obtain ⟨ta, tc, rfl⟩ := own_slice hS3.at_.row; obtain ⟨⟨y0, y1, y2⟩, _⟩ := hS3.at_.cells; have hcv := own_text hS3.at_.row rfl 9 Tryd.underlying9; have HS3 := Lib.hid hS3; have HB3 := Lib.hid ((HB2.out.alloc HB2.out.size _).trans (hS3.low HW2.out HB2.out.size)); clear hS3)))
        go_ret2
        exact ⟨rfl, HB3.out, fun x hx => by cases hx⟩
  · rw [if_neg (fun h => h0 h.1), if_neg h0]
    have hb0 : (e0 != 0) = true := by simpa using h0
    go_enter Tryd.func8, Tryd.ntmps8
    go_wp2_with (go_at_call 9; refine (HCK.out _ ((Below.refl _ _).alloc (Nat.le_refl _) _)).mono ?_; rintro e w2 ⟨rfl, hb2⟩)
    go_ret2
    exact ⟨rfl, ((Below.refl _ _).alloc (Nat.le_refl _) _).trans (hb2.mono (by go_size)), fun x hx => by cases hx⟩
end Go.Proofs.YtckgbcgmladcfaaDoor
