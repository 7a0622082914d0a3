import Derived.Test.YtkghgfiindpcjaaDeJ
import Derived.Lib.AppendZeros
namespace Go.Proofs.Ytkghgfiindpcjaa
open Go.RowKit

/-! slices.Grow from nothing; slices.Concat over parts that are read. -/
set_option maxHeartbeats 800000 in
set_option maxRecDepth 100000 in
theorem grow_any (n : Nat) (w : World) (hn : n ≤ 1099511627776) :
    Calls Try.prog 74 #[.slice none 0 0, .int .i64 (n : Nat)] w fun e w' => ∃ v, e = .returned v ∧ own8 w' w.heap.size v [] ∧ Below w.heap.size w w' := by
  by_cases h0 : n = 0
  · subst h0
    go_enter Try.func74, Try.ntmps74
    go_wp2
    go_ret
    exact ⟨_, rfl, World.ownsRow_nil _ _ _ _, Below.refl _ _⟩
  · have hpos : 0 < n := Nat.pos_of_ne_zero h0
    obtain ⟨i, hi, hz, hsz, hb⟩ := info_parts info8
    have hrun := fun ty => Lib.run_append_nil_zeros (P := Try.prog) w 22 3 ty 5 i (.int .u8 0) .i64 .i64 Try.underlying22 Try.underlying3 hi hz n hpos (by omega) (by omega) (by rw [hb]; omega)
    have hge := grownCap_ge w n 0 5
    have hle := grownCap_le_maxLen w n 0 5 (by unfold maxLen; omega)
    obtain ⟨G, hG⟩ : ∃ G, G = grownCap w n 0 5 := ⟨_, rfl⟩
    rw [← hG] at hge hle hrun
    obtain ⟨W1, hW1⟩ : ∃ W1, W1 = w.drew.alloc (.cells (Builtin.zeroCells (Value.int IntKind.u8 0).cells n ++ Builtin.zeroCells (Value.int IntKind.u8 0).cells (G - n)) 5) := ⟨_, rfl⟩
    rw [← hW1] at hrun
    have hown : own8 W1 w.heap.size (.slice (some ⟨w.heap.size, 0, none⟩) 0 G) [] := by
      refine ⟨rfl, .inr ⟨w.heap.size, G, Builtin.zeroCells (Value.int IntKind.u8 0).cells n ++ Builtin.zeroCells (Value.int IntKind.u8 0).cells (G - n), rfl, Nat.le_refl _, ?_, Nat.zero_le _, hle, ?_, ?_⟩⟩
      · rw [hW1]; exact heap_new w.drew _
      · rw [Array.size_append, size_zeroCells, size_zeroCells]
        simp [Value.cells]
        omega
      · simp [u8s]
    have hbel : Below w.heap.size w W1 := by rw [hW1]; exact (Below.refl _ _).drew.alloc (Nat.le_refl _) _
    have HO := Lib.hid hown
    have HB := Lib.hid hbel
    have hq : decide ((0 : Int) < (n : Int)) = true := decide_eq_true (by omega)
    have hG0 : ¬ G = 0 := by omega
    clear hown hbel hW1 hi hz hsz hb hG hle h0
    go_enter Try.func74, Try.ntmps74
    go_wp2_with (at_builtin; refine Lib.wpList_append_run _ rfl _ _ _ _ rfl _ _ rfl rfl _ _ (hrun _) ?_)
    go_wp2
    go_ret
    exact ⟨_, rfl, HO.out, HB.out⟩

theorem u8s_one8 (l : List Nat) : ∀ v ∈ u8s l, v.oneCell' = true := by
  intro v hv
  obtain ⟨x, _, rfl⟩ := List.mem_map.1 hv
  rfl
/-- Parts: where each lies, its room, its bytes. -/
abbrev Pt := Option Addr × Nat × List Nat
def flatL (L : List Pt) : List Nat := (L.map fun q => q.2.2).flatten
structure PartsAt (w : World) (g : Nat) (L : List Pt) : Prop where
  cell : ∀ (i : Nat) q, L[i]? = some q → w.cell? ⟨g, i, none⟩ = some (.slice q.1 q.2.2.length q.2.1)
  rd : ∀ q ∈ L, Rd .u8 w q.1 q.2.2 ∧ (q.1 = none → q.2.1 = 0)
theorem PartsAt.below {w w' : World} {g : Nat} {L : List Pt} (h : PartsAt w g L) (hb : Below w.heap.size w w') : PartsAt w' g L :=
  ⟨fun i q hq => below_cell hb _ _ (h.cell i q hq), fun q hq => ⟨(h.rd q hq).1.below hb, (h.rd q hq).2⟩⟩
theorem flatL_snoc (L : List Pt) (i : Nat) (q : Pt) (h : L[i]? = some q) : flatL (L.take (i + 1)) = flatL (L.take i) ++ q.2.2 := by
  have hi := (List.getElem?_eq_some_iff.1 h).1
  rw [List.take_add_one, h]
  simp [flatL]
theorem flatL_le (L : List Pt) (i : Nat) : (flatL (L.take i)).length ≤ (flatL L).length := by
  have : flatL L = flatL (L.take i) ++ flatL (L.drop i) := by
    unfold flatL
    rw [← List.flatten_append, ← List.map_append, List.take_append_drop]
  rw [this, List.length_append]
  omega
set_option maxHeartbeats 800000 in
set_option maxRecDepth 100000 in
theorem concat_any (g : Nat) (L : List Pt) (n : Nat) (w : World) (hn : L.length = n) (hnb : n ≤ 1000) (hP : PartsAt w g L) (hbig : (flatL L).length ≤ 549755813888) :
    Calls Try.prog 53 #[.slice (some ⟨g, 0, none⟩) n n] w fun e w' => ∃ v, e = .returned v ∧ own8 w' w.heap.size v (flatL L) ∧ Below w.heap.size w w' := by
  have HP := Lib.hid hP
  have HN := Lib.hid hn
  have HBG := Lib.hid hbig
  clear hP hn hbig
  go_enter Try.func53, Try.ntmps53
  go_wp2
  go_loop [3, 11] (fun sv iv => ∃ (i s : Nat), i ≤ n ∧ iv = .int .i64 (i : Nat) ∧ sv = .int .i64 (s : Nat) ∧ Hid (s = (flatL (L.take i)).length)) (fun _ iv => n - (intOf iv).toNat)
  case atStart => exact ⟨0, 0, Nat.zero_le _, rfl, rfl, rfl⟩
  case round =>
    obtain ⟨i, s, hi, rfl, rfl, HS⟩ := hrel
    by_cases hlt : i < n
    · obtain ⟨q, hq⟩ : ∃ q, L[i]? = some q := ⟨_, List.getElem?_eq_getElem (by rw [HN.out]; exact hlt)⟩
      have hcell := HP.out.cell i q hq
      have hfs := flatL_snoc L i q hq
      have hle := flatL_le L (i + 1)
      obtain ⟨a, c, xs⟩ := q
      obtain ⟨m, hm⟩ : ∃ m, m = xs.length := ⟨_, rfl⟩
      simp only at hcell hfs
      rw [← hm] at hcell
      have hsm : s + m = (flatL (L.take (i + 1))).length := by rw [hfs, List.length_append, ← HS.out, ← hm]
      have HSM := Lib.hid hsm
      have hsb : s + m ≤ 549755813888 := by have := HBG.out; omega
      have hq2 : decide ((s : Int) + (m : Int) < 0) = false := decide_eq_false (by omega)
      clear hfs hle hm hsm hq
      go_wp2
      go_round
      case rel => exact ⟨i + 1, s + m, by omega, by go_num, by go_num, HSM.out⟩
      case measure => simp [intOf]; omega
    · obtain rfl : i = n := by omega
      have hs : s = (flatL L).length := by rw [HS.out, List.take_of_length_le (by rw [HN.out]; exact Nat.le_refl _)]
      have hsb : s ≤ 549755813888 := by rw [hs]; exact HBG.out
      clear hs
      go_wp2_with fail
      refine (grow_any s _ (by omega)).mono ?_
      rintro e w1 ⟨v1, rfl, ho1, hb1⟩
      have HO1 := Lib.hid ho1
      have HB1 := Lib.hid hb1
      clear ho1 hb1
      go_wp2
      go_loopw [6, 27] (fun v iv wr => ∃ (k : Nat), k ≤ i ∧ iv = .int .i64 (k : Nat) ∧ Hid (own8 wr w.heap.size v (flatL (L.take k))) ∧ Hid (Below w.heap.size w wr)) (fun _ iv _ => i - (intOf iv).toNat)
      case atStart => exact ⟨0, Nat.zero_le _, rfl, HO1.out, HB1.out⟩
      case round =>
        clear HO1 HB1
        obtain ⟨k, hk, rfl, HO, HB⟩ := hrel
        by_cases hlt2 : k < i
        · obtain ⟨q, hq⟩ : ∃ q, L[k]? = some q := ⟨_, List.getElem?_eq_getElem (by rw [HN.out]; exact hlt2)⟩
          have hP := HP.out.below HB.out
          have hcell := hP.cell k q hq
          have hfs := flatL_snoc L k q hq
          have hle := flatL_le L (k + 1)
          have hrd := hP.rd q (List.mem_of_getElem? hq)
          obtain ⟨a, c, xs⟩ := q
          simp only at hcell hfs hrd
          have hle2 : (flatL (L.take k)).length + xs.length ≤ 549755813888 := by rw [hfs, List.length_append] at hle; have := HBG.out; omega
          have HFS := Lib.hid hfs
          have HRD := Lib.hid hrd.1
          have HNA := Lib.hid hrd.2
          have hsz := HB.out.size
          obtain ⟨M, hM⟩ : ∃ M, M = xs.length := ⟨_, rfl⟩
          have HM := Lib.hid hM
          rw [← hM] at hcell
          clear hfs hle hrd hq hP hM
          go_wp2_with (at_builtin; refine wpl_appN 22 5 Try.underlying22 info8 rfl (by decide) rfl _ _ rfl w.heap.size _ (flatL (L.take k)).length (u8s (flatL (L.take k))) rfl HO.out a M c rfl (u8s xs) (by rw [u8s_len, HM.out]) (fun h => HRD.out.news (by rw [← HM.out]; exact h)) (fun _ h => HNA.out h) (u8s_one8 _) (by rw [HM.out]; omega) hsz ?_; intro v5 w5 hown5 hg5 _ _)
          refine ⟨⟨k + 1, by omega, by go_num, ?_, HB.out.grown hg5 hsz (fun q hq => (World.ownsRow.lt HO.out q hq).1)⟩, by simp [intOf]; omega⟩
          show w5.ownsRow _ _ _ _ _ _
          rw [HFS.out, List.length_append, ← HM.out, show u8s (flatL (L.take k) ++ xs) = u8s (flatL (L.take k)) ++ u8s xs by simp [u8s]]
          exact hown5
        · obtain rfl : k = i := by omega
          have hO := HO.out
          rw [List.take_of_length_le (by rw [HN.out]; exact Nat.le_refl _)] at hO
          have HO := Lib.hid hO
          clear hO
          go_wp2
          go_ret
          exact ⟨_, rfl, HO.out, HB.out⟩
end Go.Proofs.Ytkghgfiindpcjaa
