import Derived.Test.YtpipjkpjpkgmpaaDoorCoD
namespace Go.Proofs.YtpipjkpjpkgmpaaDoor
open Go.RowKit

theorem idx_str {P : Program} (T : TypeId) (hT : P.underlying T = some .string) (s : ByteArray) (k c : Nat) (h : k < s.size) (hc : at0 (bsN s) k = c) (W : World) : (Instr.index T (.string s) (.int .i64 (k : Int))).run P W = .ok (.int .u8 (c : Nat)) W := by
  rw [run_index_string _ _ _ _ _ hT, dif_pos ⟨by omega, by omega⟩, ← hc, bsN_at s k h]
  rfl

set_option maxHeartbeats 800000 in
theorem find_no (s : ByteArray) (c : Nat) (w : World) (hs : s.size ≤ 1099511627776) (hn : ∀ i, i < s.size → at0 (bsN s) i ≠ c) :
    Calls Tryd.prog 47 #[.string s, .int .u8 (c : Nat)] w fun e w' => e = .returned (.int .i64 (-1)) ∧ w = w' := by
  have HN := Lib.hid hn
  clear hn
  go_enter Tryd.func47, Tryd.ntmps47
  go_wp2
  go_loop [5] (fun i => ∃ k : Nat, k ≤ s.size ∧ i = .int .i64 (k : Nat)) (fun i => s.size - (intOf i).toNat)
  case atStart => exact ⟨0, Nat.zero_le _, rfl⟩
  case round =>
    obtain ⟨k, hk, rfl⟩ := hrel
    by_cases hlt : k < s.size
    · obtain ⟨x, hx⟩ : ∃ x, x = at0 (bsN s) k := ⟨_, rfl⟩
      have hi : ∀ W, (Instr.index 9 (.string s) (.int .i64 (k : Int))).run Tryd.prog W = .ok (.int .u8 (x : Nat)) W := idx_str 9 Tryd.underlying9 s k x hlt hx.symm
      have hne : ((x : Int) == (c : Int)) = false := by have := HN.out k hlt; simp; omega
      clear hx
      go_wp2
      go_round
      case rel => exact ⟨k + 1, by omega, by go_num⟩
      case measure => simp [intOf]; omega
    · go_wp2
      go_ret
      exact ⟨rfl, rfl⟩
set_option maxHeartbeats 800000 in
theorem find_yes (s : ByteArray) (c d : Nat) (w : World) (hs : s.size ≤ 1099511627776) (hd : d < s.size) (hy : at0 (bsN s) d = c) (hn : ∀ i, i < d → at0 (bsN s) i ≠ c) :
    Calls Tryd.prog 47 #[.string s, .int .u8 (c : Nat)] w fun e w' => e = .returned (.int .i64 (d : Nat)) ∧ w = w' := by
  have HN := Lib.hid hn
  have HY := Lib.hid hy
  clear hn hy
  go_enter Tryd.func47, Tryd.ntmps47
  go_wp2
  go_loop [5] (fun i => ∃ k : Nat, k ≤ d ∧ i = .int .i64 (k : Nat)) (fun i => s.size - (intOf i).toNat)
  case atStart => exact ⟨0, Nat.zero_le _, rfl⟩
  case round =>
    obtain ⟨k, hk, rfl⟩ := hrel
    by_cases hlt : k < d
    · obtain ⟨x, hx⟩ : ∃ x, x = at0 (bsN s) k := ⟨_, rfl⟩
      have hi : ∀ W, (Instr.index 9 (.string s) (.int .i64 (k : Int))).run Tryd.prog W = .ok (.int .u8 (x : Nat)) W := idx_str 9 Tryd.underlying9 s k x (by omega) hx.symm
      have hne : ((x : Int) == (c : Int)) = false := by have := HN.out k hlt; simp; omega
      clear hx
      go_wp2
      go_round
      case rel => exact ⟨k + 1, by omega, by go_num⟩
      case measure => simp [intOf]; omega
    · obtain rfl : k = d := by omega
      have hi : ∀ W, (Instr.index 9 (.string s) (.int .i64 (k : Int))).run Tryd.prog W = .ok (.int .u8 (c : Nat)) W := idx_str 9 Tryd.underlying9 s k c hd HY.out
      have hne : ((c : Int) == (c : Int)) = true := by simp
      go_wp2
      go_ret
      exact ⟨rfl, rfl⟩
theorem hexLit_bs (d : Nat) (h : d < 16) : at0 (bsN hexLit) d = hexD d := by
  rw [bsN_at hexLit d h]
  exact hexLit_at d h
theorem hexLit_size : hexLit.size = 16 := rfl
/-- The place of a letter among hex's. -/
theorem fhex_no (c : Nat) (w : World) (hn : ∀ d, d < 16 → hexD d ≠ c) :
    Calls Tryd.prog 47 #[.string ⟨#[48, 49, 50, 51, 52, 53, 54, 55, 56, 57, 97, 98, 99, 100, 101, 102]⟩, .int .u8 (c : Nat)] w fun e w' => e = .returned (.int .i64 (-1)) ∧ w = w' :=
  find_no hexLit c w (by rw [hexLit_size]; decide) (fun i hi => by rw [hexLit_size] at hi; rw [hexLit_bs i hi]; exact hn i hi)
theorem fhex_yes (c d : Nat) (w : World) (hd : d < 16) (hy : hexD d = c) :
    Calls Tryd.prog 47 #[.string ⟨#[48, 49, 50, 51, 52, 53, 54, 55, 56, 57, 97, 98, 99, 100, 101, 102]⟩, .int .u8 (c : Nat)] w fun e w' => e = .returned (.int .i64 (d : Nat)) ∧ w = w' :=
  find_yes hexLit c d w (by rw [hexLit_size]; decide) (by rw [hexLit_size]; exact hd) (by rw [hexLit_bs d hd]; exact hy) (fun i hi e => by
    rw [hexLit_bs i (by omega), ← hy] at e
    have := hexD_inj (by omega) hd e
    omega)
end Go.Proofs.YtpipjkpjpkgmpaaDoor
