import Derived.Test.YtaookoejdnkkoaaGreatDoorKGB
namespace Go.Proofs.YtaookoejdnkkoaaGreatDoor
open Go.RowKit

def mkw (i : Int) : Value := .int .u64 (mk 90 i)
def mksw (k : Nat) : List Value := (List.range k).map fun (i : Nat) => mkw i
theorem u64s_snoc (xs : List Nat) (k x : Nat) (h : k < xs.length) (hx : Hid (xs.getD k 0 = x)) : u64s (xs.take (k + 1)) = u64s (xs.take k) ++ [.int .u64 (x : Nat)] := by
  rw [take_snoc xs k x h hx]; simp [u64s]
theorem mksw_snoc (k : Nat) : mksw (k + 1) = mksw k ++ [mkw k] := by
  unfold mksw; rw [List.range_succ]; simp
set_option maxHeartbeats 400000 in
theorem lentWords_any (a : Option Addr) (len cap : Nat) (xs : List Nat) (w : World) (hl : xs.length = len) (hbig : len ≤ 1099511627776) (hr : Rd .u64 w a xs) :
    Calls Tryz.prog 104 #[.slice a len cap] w fun e w' => ∃ g cap', e = .returned (.slice (some ⟨g, 0, none⟩) len cap') ∧
      w'.ownsRow w.heap.size 47 1 (.slice (some ⟨g, 0, none⟩) (len + 16) cap') (len + 16) (u64s xs ++ mksw 16) ∧ w.heap.size ≤ g ∧ Below w.heap.size w w' := by
  go_enter Tryz.func104, Tryz.ntmps104
  go_wp2
  go_loopw [3, 4] (fun v i wr => ∃ k : Nat, k ≤ len ∧ i = .int .i64 k ∧ wr.ownsRow w.heap.size 47 1 v k (u64s (xs.take k)) ∧ Below w.heap.size w wr) (fun _ i _ => len - (intOf i).toNat)
  case atStart => exact ⟨0, Nat.zero_le _, rfl, World.ownsRow_nil _ _ _ _, Below.refl _ _⟩
  case round =>
    obtain ⟨k, hk, rfl, hown, hb⟩ := hrel
    by_cases hlt : k < len
    · obtain ⟨b, off, rfl, hc⟩ := hr.get (by omega)
      have hcell : wr.cell? ⟨b, off + k, none⟩ = some (.int .u64 (xs.getD k 0 : Nat)) := below_cell hb _ _ (hc k (by omega))
      clear hc hr
      generalize hx0 : xs.getD k 0 = x at hcell
      have hx := Lib.hid hx0
      clear hx0
      go_wp2_with (at_builtin; refine wpl_app 23 47 Tryz.underlying23 info64 rfl (by decide) rfl _ _ rfl w.heap.size _ k (u64s (xs.take k)) rfl (hown.alloc _) wr.heap.size _ rfl (World.cell?_alloc_at _ _ _ _ rfl) rfl (by omega) (by have := hb.size; simp; omega) ?_; intro g cap' w1 hown1 hg1 hBg _ _)
      go_roundw
      case rel =>
        exact ⟨k + 1, by omega, by go_num, by rw [u64s_snoc xs k x (by omega) hx]; exact hown1, (hb.alloc (by have := hb.size; omega) _).grown hg1 (by have := hb.size; simp; omega) (fun j hj => (hown.lt j hj).1)⟩
      case measure => simp [intOf]; omega
    · obtain rfl : k = len := by omega
      go_wp2
      go_loopw [3, 5] (fun v i wr => ∃ j : Nat, j ≤ 16 ∧ i = .int .i64 j ∧ wr.ownsRow w.heap.size 47 1 v (k + j) (u64s xs ++ mksw j) ∧ Below w.heap.size w wr) (fun _ i _ => 16 - (intOf i).toNat)
      case atStart => exact ⟨0, Nat.zero_le _, rfl, by simpa [mksw, List.take_of_length_le (show xs.length ≤ k by omega)] using hown, hb⟩
      case round =>
        clear hown hb
        obtain ⟨j, hj, rfl, hown, hb⟩ := hrel
        by_cases hlt2 : j < 16
        · go_wp2_with (first
            | (go_at_call 48; refine (mark_any _ _ _).mono ?_; rintro e w' ⟨rfl, rfl⟩)
            | (at_builtin; refine wpl_app 23 47 Tryz.underlying23 info64 rfl (by decide) rfl _ _ rfl w.heap.size _ (k + j) (u64s xs ++ mksw j) rfl (hown.alloc _) _ _ rfl (World.cell?_alloc_at _ _ _ _ rfl) rfl (by omega) (by have := hb.size; simp; omega) ?_; intro g cap' w1 hown1 hg1 hBg _ _))
          go_roundw
          case rel =>
            exact ⟨j + 1, by omega, by go_num, by rw [mksw_snoc, ← List.append_assoc]; exact hown1, (hb.alloc (by have := hb.size; omega) _).grown hg1 (by have := hb.size; simp; omega) (fun j hj => (hown.lt j hj).1)⟩
          case measure => simp [intOf]; omega
        · obtain rfl : j = 16 := by omega
          rcases hown.2 with ⟨rfl, h0⟩ | ⟨g, cap', cur, rfl, hbg, rest⟩
          · omega
          · have hle : k + 16 ≤ cap' := rest.2.1
            go_wp2
            go_ret
            exact ⟨g, cap', rfl, hown, hbg, hb⟩

set_option maxHeartbeats 400000 in
theorem keptWords_any (a : Option Addr) (B g len cap cap' : Nat) (xs : List Nat) (w : World) (hl : xs.length = len) (hbig : len ≤ 1099511627776) (hr : Rd .u64 w a xs)
    (hown : w.ownsRow B 47 1 (.slice (some ⟨g, 0, none⟩) (len + 16) cap') (len + 16) (u64s xs ++ mksw 16)) :
    Calls Tryz.prog 110 #[.slice (some ⟨g, 0, none⟩) len cap', .slice a len cap] w fun e w' => e = .returned (.bool true) ∧ w = w' := by
  have hcap : len + 16 ≤ cap' := by
    rcases hown.2 with ⟨h, _⟩ | ⟨g', c', cur, h, _, _, hn, _⟩
    · cases h
    · cases h; exact hn
  go_enter Tryz.func110, Tryz.ntmps110
  go_wp2
  go_loop [6] (fun i => ∃ k : Nat, k ≤ len + 16 ∧ i = .int .i64 k) (fun i => len + 16 - (intOf i).toNat)
  case atStart => exact ⟨0, Nat.zero_le _, rfl⟩
  case round =>
    obtain ⟨k, hk, rfl⟩ := hrel
    by_cases hlt : k < len
    · obtain ⟨b, off, rfl, hc⟩ := hr.get (by omega)
      have hcell : w.cell? ⟨b, off + k, none⟩ = some (.int .u64 (xs.getD k 0 : Nat)) := hc k (by omega)
      have hcell2 : w.cell? ⟨g, k, none⟩ = some (.int .u64 (xs.getD k 0 : Nat)) := by
        rw [hown.cellAt k (by omega), List.getElem?_append_left (by rw [u64s_len]; omega)]; simp [u64s, List.getD, hl, hlt]
      clear hc hr hown
      generalize xs.getD k 0 = x at hcell hcell2
      go_wp2_with (go_at_call 48; refine (mark_any _ _ _).mono ?_; rintro e w' ⟨rfl, rfl⟩)
      go_round
      case rel => exact ⟨k + 1, by omega, by go_num⟩
      case measure => simp [intOf]; omega
    · by_cases hlt2 : k < len + 16
      · obtain ⟨j, rfl⟩ : ∃ j, k = len + j := ⟨k - len, by omega⟩
        have hcell2 : w.cell? ⟨g, len + j, none⟩ = some (.int .u64 (mk 90 ((len : Int) + (j : Int) - (len : Int)))) := by
          rw [hown.cellAt (len + j) (by omega), List.getElem?_append_right (by rw [u64s_len]; omega), u64s_len, show (len : Int) + (j : Int) - (len : Int) = (j : Int) by omega]
          simp [mksw, mkw, hl, show j < 16 by omega]
        clear hr hown
        go_wp2_with (go_at_call 48; refine (mark_any _ _ _).mono ?_; rintro e w' ⟨rfl, rfl⟩)
        go_round
        case rel => exact ⟨len + j + 1, by omega, by go_num⟩
        case measure => simp [intOf]; omega
      · obtain rfl : k = len + 16 := by omega
        go_wp2
        go_ret
        exact ⟨rfl, rfl⟩
end Go.Proofs.YtaookoejdnkkoaaGreatDoor
