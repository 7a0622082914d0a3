import Derived.Test.YtdaaapingaebkaaFdN
import Derived.Test.YtdaaapingaebkaaFdR
namespace Go.Proofs.Ytdaaapingaebkaa
open Go.RowKit

/-! fields: a text as further lines of a field. -/
def nxB (p c : Nat) : Nat := if (c ≠ 10 ∧ (c < 32 ∨ 126 < c)) ∨ p = 10 then 32 else c
def behF : Nat → List Nat → List Nat
  | _, [] => []
  | p, c :: r => nxB p c :: behF (nxB p c) r
def lastF : Nat → List Nat → Nat
  | p, [] => p
  | p, c :: r => lastF (nxB p c) r
theorem behF_len : ∀ (p : Nat) (x : List Nat), (behF p x).length = x.length
  | _, [] => rfl
  | p, c :: r => by simp [behF, behF_len _ r]
theorem behF_app : ∀ (p : Nat) (x : List Nat) (c : Nat), behF p (x ++ [c]) = behF p x ++ [nxB (lastF p x) c] ∧ lastF p (x ++ [c]) = nxB (lastF p x) c
  | p, [], c => ⟨rfl, rfl⟩
  | p, d :: r, c => by
    obtain ⟨h1, h2⟩ := behF_app (nxB p d) r c
    exact ⟨by rw [List.cons_append, behF, behF, h1]; rfl, by rw [List.cons_append, lastF, h2]; rfl⟩
theorem lastF_at : ∀ (p : Nat) (x : List Nat), at0 (p :: behF p x) x.length = lastF p x
  | p, [] => rfl
  | p, c :: r => by rw [List.length_cons, at0_cons_succ]; exact lastF_at (nxB p c) r
theorem nxB_8 {p c : Nat} (h : c < 256) : nxB p c < 256 := by unfold nxB; split <;> omega
theorem behF_8 : ∀ (p : Nat) (x : List Nat), B8 x → B8 (behF p x)
  | _, [], _ => fun y hy => by cases hy
  | p, c :: r, h => fun y hy => by
    rcases List.mem_cons.1 hy with e | e
    · rw [e]; exact nxB_8 (h c (by simp))
    · exact behF_8 _ r (fun z hz => h z (by simp [hz])) y e
theorem nxB_may (p c : Nat) : mayB (nxB p c) = true := by
  unfold nxB mayB
  split
  · rfl
  · exact decide_eq_true (by omega)
theorem behF_may : ∀ (p : Nat) (x : List Nat), ∀ y ∈ behF p x, mayB y = true
  | _, [], y, hy => by cases hy
  | p, c :: r, y, hy => by
    rcases List.mem_cons.1 hy with e | e
    · rw [e]; exact nxB_may p c
    · exact behF_may _ r y e
theorem behF_goes : ∀ (x : List Nat) (p : Nat) (j : Nat), j + 1 < (p :: (behF p x ++ [10])).length → at0 (p :: (behF p x ++ [10])) j = 10 → goesB (at0 (p :: (behF p x ++ [10])) (j + 1)) = true
  | [], p, j, h, _ => by
    have : j = 0 := by simp [behF] at h; omega
    subst this
    rfl
  | c :: r, p, 0, _, h => by
    rw [at0_cons_zero] at h
    rw [at0_cons_succ, behF, List.cons_append, at0_cons_zero]
    unfold nxB
    rw [if_pos (.inr h)]
    rfl
  | c :: r, p, j + 1, h, h2 => by
    rw [at0_cons_succ, behF, List.cons_append] at h2 ⊢
    rw [behF, List.cons_append, List.length_cons] at h
    exact behF_goes r (nxB p c) j (by omega) h2
/-- A text as further lines. -/
def behT (l : List Nat) : List Nat := 32 :: (behF 32 (l.take 300) ++ [10])
theorem behT_beh (l : List Nat) : Beh (behT l) := by
  refine ⟨fun x hx => ?_, behF_goes _ 32⟩
  rcases List.mem_cons.1 hx with e | e
  · rw [e]; rfl
  · rcases List.mem_append.1 e with e | e
    · exact behF_may _ _ x e
    · obtain rfl := List.mem_singleton.1 e
      rfl
theorem behT_len (l : List Nat) : (behT l).length ≤ 302 := by
  simp [behT, behF_len]
  omega
theorem behT_8 {l : List Nat} (h : B8 l) : B8 (behT l) := fun x hx => by
  rcases List.mem_cons.1 hx with e | e
  · omega
  · rcases List.mem_append.1 e with e | e
    · exact behF_8 _ _ (h.take 300) x e
    · have := List.mem_singleton.1 e
      omega
set_option maxHeartbeats 4000000 in
set_option maxRecDepth 100000 in
theorem l_behind (s : ByteArray) (n : Nat) (w : World) (hn : s.size = n) (hbig : n ≤ 9223372036854775807) :
    Calls Try.prog 24 #[.string s] w fun e w' => e = .returned (.string (strN (behT (bsN s)))) ∧ Below w.heap.size w w' := by
  obtain ⟨l, hl⟩ : ∃ l, l = bsN s := ⟨_, rfl⟩
  have hll : l.length = n := by rw [hl, bsN_len, hn]
  have h8 : B8 l := by rw [hl]; exact bsN_8 s
  have HX := Lib.hid hl
  rw [← hl]
  have HL := Lib.hid hll
  have H8 := Lib.hid h8
  clear hl hll h8
  obtain ⟨m, hm⟩ : ∃ m, m = min n 300 := ⟨_, rfl⟩
  have hm1 : m ≤ n := by omega
  have hm2 : m ≤ 300 := by omega
  have HM : Hid (m = n ∨ m = 300) := by show _ ∨ _; omega
  have HTK : Hid (l.take m = l.take 300) := by
    show _ = _
    rw [hm]
    by_cases h : n ≤ 300
    · rw [Nat.min_eq_left h, List.take_of_length_le (by rw [HL.out]; exact Nat.le_refl _), List.take_of_length_le (by rw [HL.out]; exact h)]
    · rw [Nat.min_eq_right (by omega)]
  clear hm
  go_enter Try.func24, Try.ntmps24
  go_wp2
  go_loopw [3, 4] (fun v iv wr => ∃ (i : Nat) (g cap : Nat), i ≤ m ∧ iv = .int .i64 (i : Nat) ∧ v = .slice (some ⟨g, 0, none⟩) (i + 1) cap ∧ Hid (wr.ownsRow w.heap.size 5 1 (.slice (some ⟨g, 0, none⟩) (i + 1) cap) (i + 1) (u8s (32 :: behF 32 (l.take i)))) ∧ Hid (Below w.heap.size w wr)) (fun _ iv _ => m - (intOf iv).toNat)
  case atStart => exact ⟨0, w.heap.size, 1, Nat.zero_le _, rfl, rfl, World.ownsRow_lit w #[.int .u8 32] 1 (Nat.le_refl _) (by decide) rfl, bel_alloc (Below.refl _ _) _⟩
  case round =>
    obtain ⟨i, g, cap, hi, rfl, rfl, HO, HB⟩ := hrel
    by_cases hin : i < m
    · have hil : i < l.length := by rw [HL.out]; omega
      obtain ⟨c, hc⟩ : ∃ c, at0 l i = c := ⟨_, rfl⟩
      have x1 : ∀ W, (Instr.index 9 (.string s) (.int .i64 (i : Int))).run Try.prog W = .ok (.int .u8 (c : Nat)) W := idx_str 9 Try.underlying9 s i c (by omega) (by rw [← HX.out]; exact hc)
      have c1 : (0 : Int) ≤ (i : Int) := by omega
      have c2 : (i : Int) < (s.size : Int) := by omega
      have c3 : (i : Int) < (n : Int) := by omega
      have c4 : (i : Int) < 300 := by omega
      obtain ⟨p, hp⟩ : ∃ p, lastF 32 (l.take i) = p := ⟨_, rfl⟩
      have htl : (l.take i).length = i := by rw [List.length_take]; omega
      have z0 : wr.cell? ⟨g, i, none⟩ = some (.int .u8 (p : Nat)) := by
        have hlf := lastF_at 32 (l.take i)
        rw [htl, hp] at hlf
        rw [World.ownsRow.cellAt HO.out i (by omega), u8s_at _ _ (by rw [List.length_cons, behF_len, htl]; omega), hlf]
      have hst : u8s (32 :: behF 32 (l.take (i + 1))) = u8s (32 :: behF 32 (l.take i)) ++ [.int .u8 (nxB p c : Nat)] := by
        rw [take_succ_at0 hil, hc, (behF_app 32 (l.take i) c).1, hp, u8s_push]
        rfl
      have hcnt : i + 1 + 1 ≤ 4398046511104 := by omega
      have hbs := HB.out.size
      clear hc hp htl hil
      rcases (show c = 10 ∨ (c < 32 ∧ c ≠ 10) ∨ 126 < c ∨ (32 ≤ c ∧ c ≤ 126) by omega) with u | ⟨u, u1⟩ | u | ⟨u, u1⟩
      · subst u
        by_cases hp : p = 10
        · subst hp
          have HST : Hid (u8s (32 :: behF 32 (l.take (i + 1))) = u8s (32 :: behF 32 (l.take i)) ++ [.int .u8 32]) := hst
          clear hst
          go_wp2_with (at_builtin; refine wpl_app 49 5 Try.underlying49 info8 rfl (by decide) rfl _ _ rfl w.heap.size _ (i + 1) (u8s (32 :: behF 32 (l.take i))) rfl (World.ownsRow.alloc HO.out _) wr.heap.size (.int .u8 32) rfl ?_ rfl hcnt (by go_size) ?_; exact World.cell?_alloc_at _ _ _ _ rfl; intro g6 cap6 w6 hown hgr hBg hlt hor; have HO6 := Lib.hid hown; have HG6 := Lib.hid hgr; clear hown hgr)
          go_roundw
          case rel => exact ⟨i + 1, g6, cap6, by omega, by go_num, rfl, by rw [HST.out]; exact HO6.out, small_below HO.out HB.out HG6.out⟩
          case measure => simp [intOf]; omega
        · have hp1 : ((p : Int) == 10) = false := by simp only [beq_eq_false_iff_ne]; omega
          have HST : Hid (u8s (32 :: behF 32 (l.take (i + 1))) = u8s (32 :: behF 32 (l.take i)) ++ [.int .u8 10]) := by
            show _ = _
            rw [hst]
            simp [nxB, hp]
          clear hst hp
          go_wp2_with (at_builtin; refine wpl_app 49 5 Try.underlying49 info8 rfl (by decide) rfl _ _ rfl w.heap.size _ (i + 1) (u8s (32 :: behF 32 (l.take i))) rfl (World.ownsRow.alloc HO.out _) wr.heap.size (.int .u8 10) rfl ?_ rfl hcnt (by go_size) ?_; exact World.cell?_alloc_at _ _ _ _ rfl; intro g6 cap6 w6 hown hgr hBg hlt hor; have HO6 := Lib.hid hown; have HG6 := Lib.hid hgr; clear hown hgr)
          go_roundw
          case rel => exact ⟨i + 1, g6, cap6, by omega, by go_num, rfl, by rw [HST.out]; exact HO6.out, small_below HO.out HB.out HG6.out⟩
          case measure => simp [intOf]; omega
      · have HST : Hid (u8s (32 :: behF 32 (l.take (i + 1))) = u8s (32 :: behF 32 (l.take i)) ++ [.int .u8 32]) := by
          show _ = _
          rw [hst]
          unfold nxB
          rw [if_pos (.inl ⟨u1, .inl u⟩)]
          rfl
        have v1 : (c : Int) < 32 := by omega
        have v2 : ((c : Int) == 10) = false := by simp only [beq_eq_false_iff_ne]; omega
        clear hst
        go_wp2_with (at_builtin; refine wpl_app 49 5 Try.underlying49 info8 rfl (by decide) rfl _ _ rfl w.heap.size _ (i + 1) (u8s (32 :: behF 32 (l.take i))) rfl (World.ownsRow.alloc HO.out _) wr.heap.size (.int .u8 32) rfl ?_ rfl hcnt (by go_size) ?_; exact World.cell?_alloc_at _ _ _ _ rfl; intro g6 cap6 w6 hown hgr hBg hlt hor; have HO6 := Lib.hid hown; have HG6 := Lib.hid hgr; clear hown hgr)
        go_roundw
        case rel => exact ⟨i + 1, g6, cap6, by omega, by go_num, rfl, by rw [HST.out]; exact HO6.out, small_below HO.out HB.out HG6.out⟩
        case measure => simp [intOf]; omega
      · have HST : Hid (u8s (32 :: behF 32 (l.take (i + 1))) = u8s (32 :: behF 32 (l.take i)) ++ [.int .u8 32]) := by
          show _ = _
          rw [hst]
          unfold nxB
          rw [if_pos (.inl ⟨by omega, .inr u⟩)]
          rfl
        have v1 : decide ((c : Int) < 32) = false := decide_eq_false (by omega)
        have v2 : ((c : Int) == 10) = false := by simp only [beq_eq_false_iff_ne]; omega
        have v3 : (126 : Int) < (c : Int) := by omega
        clear hst
        go_wp2_with (at_builtin; refine wpl_app 49 5 Try.underlying49 info8 rfl (by decide) rfl _ _ rfl w.heap.size _ (i + 1) (u8s (32 :: behF 32 (l.take i))) rfl (World.ownsRow.alloc HO.out _) wr.heap.size (.int .u8 32) rfl ?_ rfl hcnt (by go_size) ?_; exact World.cell?_alloc_at _ _ _ _ rfl; intro g6 cap6 w6 hown hgr hBg hlt hor; have HO6 := Lib.hid hown; have HG6 := Lib.hid hgr; clear hown hgr)
        go_roundw
        case rel => exact ⟨i + 1, g6, cap6, by omega, by go_num, rfl, by rw [HST.out]; exact HO6.out, small_below HO.out HB.out HG6.out⟩
        case measure => simp [intOf]; omega
      · have v1 : decide ((c : Int) < 32) = false := decide_eq_false (by omega)
        have v2 : ((c : Int) == 10) = false := by simp only [beq_eq_false_iff_ne]; omega
        have v3 : decide ((126 : Int) < (c : Int)) = false := decide_eq_false (by omega)
        have v4 : (32 : Int) ≤ (c : Int) := by omega
        have v5 : (c : Int) ≤ 126 := by omega
        by_cases hp : p = 10
        · subst hp
          have HST : Hid (u8s (32 :: behF 32 (l.take (i + 1))) = u8s (32 :: behF 32 (l.take i)) ++ [.int .u8 32]) := by
            show _ = _
            rw [hst]
            unfold nxB
            rw [if_pos (.inr rfl)]
            rfl
          clear hst
          go_wp2_with (at_builtin; refine wpl_app 49 5 Try.underlying49 info8 rfl (by decide) rfl _ _ rfl w.heap.size _ (i + 1) (u8s (32 :: behF 32 (l.take i))) rfl (World.ownsRow.alloc HO.out _) wr.heap.size (.int .u8 32) rfl ?_ rfl hcnt (by go_size) ?_; exact World.cell?_alloc_at _ _ _ _ rfl; intro g6 cap6 w6 hown hgr hBg hlt hor; have HO6 := Lib.hid hown; have HG6 := Lib.hid hgr; clear hown hgr)
          go_roundw
          case rel => exact ⟨i + 1, g6, cap6, by omega, by go_num, rfl, by rw [HST.out]; exact HO6.out, small_below HO.out HB.out HG6.out⟩
          case measure => simp [intOf]; omega
        · have hp1 : ((p : Int) == 10) = false := by simp only [beq_eq_false_iff_ne]; omega
          have HST : Hid (u8s (32 :: behF 32 (l.take (i + 1))) = u8s (32 :: behF 32 (l.take i)) ++ [.int .u8 (c : Nat)]) := by
            show _ = _
            rw [hst]
            unfold nxB
            rw [if_neg (by omega)]
          clear hst hp
          go_wp2_with (at_builtin; refine wpl_app 49 5 Try.underlying49 info8 rfl (by decide) rfl _ _ rfl w.heap.size _ (i + 1) (u8s (32 :: behF 32 (l.take i))) rfl (World.ownsRow.alloc HO.out _) wr.heap.size (.int .u8 (c : Nat)) rfl ?_ rfl hcnt (by go_size) ?_; exact World.cell?_alloc_at _ _ _ _ rfl; intro g6 cap6 w6 hown hgr hBg hlt hor; have HO6 := Lib.hid hown; have HG6 := Lib.hid hgr; clear hown hgr)
          go_roundw
          case rel => exact ⟨i + 1, g6, cap6, by omega, by go_num, rfl, by rw [HST.out]; exact HO6.out, small_below HO.out HB.out HG6.out⟩
          case measure => simp [intOf]; omega
    · obtain rfl : i = m := by omega
      have ht := own_text HO.out (by rw [List.length_cons, behF_len, List.length_take, HL.out]; omega) 9 Try.underlying9
      have HFIN : Hid (strN (32 :: behF 32 (l.take i)) ++ ⟨#[10]⟩ = strN (behT l)) := by
        show _ = _
        have := strN_app (32 :: behF 32 (l.take i)) [10]
        rw [HTK.out] at this ⊢
        exact this
      obtain ⟨T0, hT0⟩ : ∃ T0, T0 = strN (32 :: behF 32 (l.take i)) := ⟨_, rfl⟩
      rw [← hT0] at ht HFIN
      have hts : T0.size = i + 1 := by rw [hT0, strN_size, List.length_cons, behF_len, List.length_take, HL.out]; omega
      have hts2 : T0.size ≤ 301 := by omega
      clear hT0 hts
      obtain ⟨q, hq⟩ : ∃ q, i + 1 = q := ⟨_, rfl⟩
      rw [hq] at ht ⊢
      clear hq
      by_cases hn2 : i < n
      · have v1 : (i : Int) < (n : Int) := by omega
        have v2 : decide ((i : Int) < 300) = false := decide_eq_false (by rcases HM.out with h | h <;> omega)
        have v3 : (300 : Int) ≤ (i : Int) := by rcases HM.out with h | h <;> omega
        have v4 : decide (i < 300) = false := decide_eq_false (by omega)
        have v5 : 300 ≤ i := by omega
        clear hn2
        go_wp2
        go_ret
        exact ⟨by rw [HFIN.out]; rfl, HB.out⟩
      · have v2 : decide ((i : Int) < (n : Int)) = false := decide_eq_false (by omega)
        have v3 : decide (i < n) = false := decide_eq_false (by omega)
        clear hn2
        go_wp2
        go_ret
        exact ⟨by rw [HFIN.out]; rfl, HB.out⟩
end Go.Proofs.Ytdaaapingaebkaa
