import Derived.Test.YtpipjkpjpkgmpaaDoorShM
namespace Go.Proofs.YtpipjkpjpkgmpaaDoor
open Go.RowKit

theorem WS.mono {g B k : Nat} (h : WS g B k) : k = g ∨ B ≤ k := h
set_option maxHeartbeats 800000 in
set_option maxRecDepth 100000 in
theorem write_any (g : Nat) (m : List Nat) (a : Option Addr) (len cap : Nat) (l : List Nat) (w : World) (hS : HSt w g m) (hl : l.length = len) (hbig : m.length + len ≤ 1099511627776) (hcap : len ≤ cap)
    (hb : ∀ x ∈ l, x < 256) (hr : Rd .u8 w a l) (hne : 0 < len → ∀ p, a = some p → p.block ≠ g) :
    Calls Tryd.prog 16 #[.pointer (some ⟨g, 0, none⟩), .slice a len cap] w fun e w' => e = .returned (.tuple #[]) ∧ HSt w' g (m ++ l) ∧ Chg (WS g w.heap.size) w w' := by
  by_cases h0 : 0 < len
  · obtain ⟨bb, off, rfl, hc⟩ := hr.get (by omega)
    have hbw : bb < w.heap.size := World.block_lt_of_cell? w ⟨bb, off + 0, none⟩ (hc 0 (by omega))
    exact write_pos g m bb off len cap l w hS hl h0 hbig hcap hb (fun i hi => hc i (by omega)) (hne h0 _ rfl) hbw
  · obtain rfl : len = 0 := by omega
    obtain rfl := List.eq_nil_of_length_eq_zero hl
    have HS := Lib.hid hS
    clear hS hr
    go_enter Tryd.func16, Tryd.ntmps16
    go_wp2
    go_loopw [1] (fun v wr => v = .slice a 0 cap ∧ wr = w) (fun _ _ => 0)
    case atStart => exact ⟨rfl, rfl⟩
    case round =>
      obtain ⟨rfl, rfl⟩ := hrel
      go_wp2
      exact bodyPost_end (results_none rfl _ _ _) rfl ⟨rfl, by rw [List.append_nil]; exact HS.out, Chg.refl _ _⟩

set_option maxHeartbeats 800000 in
theorem len_any (g : Nat) (m : List Nat) (w : World) (hS : HSt w g m) : Calls Tryd.prog 18 #[.pointer (some ⟨g, 0, none⟩)] w fun e w' => e = .returned (.int .u64 ((m.length : Nat) : Int)) ∧ w' = w := by
  obtain ⟨buf, hbl, hbb, hcb, hpre⟩ := hS
  have hcc : w.cell? ⟨g, 69, none⟩ = some (.int .u64 ((m.length : Nat) : Int)) := by rw [hcb.cell, hcells_n _ _ _ hbl]
  generalize m.length = n at *
  clear hbl hbb hcb hpre
  go_enter Tryd.func18, Tryd.ntmps18
  go_wp2
  go_ret
  exact ⟨rfl, rfl⟩

set_option maxHeartbeats 1600000 in
set_option maxRecDepth 100000 in
theorem reset_any (g : Nat) (m : List Nat) (w : World) (hS : HSt w g m) (hF : Five w) : Calls Tryd.prog 13 #[.pointer (some ⟨g, 0, none⟩)] w fun e w' => e = .returned (.tuple #[]) ∧ HSt w' g [] ∧ Chg (WS g w.heap.size) w w' := by
  obtain ⟨buf, hbl, hbb, hcb, hpre⟩ := hS
  have hgl := hcb.lt
  go_enter Tryd.func13, Tryd.ntmps13
  go_upto_region 1 with fail
  refine wp_region_lit ?_
  refine wpList_plain rfl fun K1 hK1 => ?_
  go_simp
  refine hK1 _ _ ?_
  clear hK1 K1
  refine wpList_plain rfl fun K1 hK1 => ?_
  go_simp
  go_at_call 10
  refine (new_any w hF).mono ?_
  rintro e w1 ⟨rfl, hS1, hb1⟩
  go_simp
  refine hK1 _ _ ?_
  clear hK1 K1
  obtain ⟨buf1, hbl1, hbb1, hcb1, hpre1⟩ := hS1
  have hcb := hcb.below hb1
  refine wpList_plain rfl fun K1 hK1 => ?_
  go_simp
  refine hK1 _ _ ?_
  clear hK1 K1
  refine wpList_plain rfl fun K1 hK1 => wp_loadc 59 (.tmp 6) rfl w.heap.size 0 70 rfl hcb1 _ Tryd.underlying59 rfl (zero_of_info infoH).2 (by rw [hcells_len _ _ _ hbl1]; exact Nat.le_refl _) _ rfl (hK1 _ _ ?_)
  clear hK1 K1
  rw [List.drop_zero, List.take_of_length_le (by rw [hcells_len _ _ _ hbl1]; exact Nat.le_refl _)]
  generalize hH : hcells (blocks5 start5 ([] : List Nat) (([] : List Nat).length / 64)) buf1 ([] : List Nat).length = H at *
  refine wpList_plain rfl fun K1 hK1 => ?_
  go_simp
  refine hK1 _ _ ?_
  clear hK1 K1
  have hHl : H.length = 70 := by rw [← hH]; exact hcells_len _ _ _ hbl1
  refine wpList_plain rfl fun K1 hK1 => wp_storec 59 (.tmp 8) (.tmp 7) rfl g 0 70 rfl H rfl hHl hcb (zero_of_info infoH).2 (by rw [hcells_len _ _ _ hbl]; exact Nat.le_refl _) (by rw [← hH]; exact hcells_one _ _ _) fun w2 C2 hch hsz => hK1 _ _ ?_
  clear hK1 K1
  rw [splice_all (by rw [hHl, hcells_len _ _ _ hbl])] at C2
  go_wp2
  refine bodyPost_end (results_none rfl _ _ _) rfl ⟨rfl, ⟨buf1, hbl1, hbb1, by rw [hH]; exact C2, hpre1⟩, ?_⟩
  exact ((Chg.of_below hb1).mono (fun i hi _ => .inr hi)).step hch (fun i hi _ => .inl hi)
end Go.Proofs.YtpipjkpjpkgmpaaDoor
