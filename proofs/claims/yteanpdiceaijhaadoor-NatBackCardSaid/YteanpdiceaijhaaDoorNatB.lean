import Derived.Test.YteanpdiceaijhaaDoorSeg
import Derived.Test.YteanpdiceaijhaaDoorShelf
import Derived.BigQuiet
import Derived.Deep.QuietTactic
namespace Go.Proofs.YteanpdiceaijhaaDoor
open Go.RowKit

set_option maxHeartbeats 400000 in
theorem one_any (a : Option Addr) (len cap : Nat) (xs : List Nat) (w : World) (hl : xs.length = len) (hbig : len ≤ 1099511627776) (hcap : len ≤ cap) (hr : Rd .u64 w a xs) :
    Calls Tryd.prog 55 #[.slice a len cap] w fun e w' =>
      ((fl xs ≤ 128 ∧ ∃ a' c', e = .returned (.tuple #[.slice a' (fl xs) c', .int .i64 0]) ∧ (0 < fl xs → a' = a ∧ c' = cap) ∧ (fl xs = 0 → a' = none ∧ c' = 0)) ∨
       (128 < fl xs ∧ e = .returned (.tuple #[.slice none 0 0, .int .i64 3]))) ∧ w = w' := by
  have hfl := (fl_spec xs).1
  by_cases h : 128 < fl xs
  all_goals
    go_enter Tryd.func55, Tryd.ntmps55
    go_wp2_with (go_at_call 58; refine (form_any _ _ _ xs _ hl hbig hcap hr).mono ?_)
    rintro e w' ⟨⟨a', c', rfl, h1, h2⟩, rfl⟩
    have H1 := Lib.hid h1
    have H2 := Lib.hid h2
    clear h1 h2
    go_wp2
    go_ret2
  · exact ⟨.inr ⟨h, rfl⟩, rfl⟩
  · exact ⟨.inl ⟨by omega, a', c', rfl, H1.out, H2.out⟩, rfl⟩

set_option maxHeartbeats 400000 in
theorem copied_any (a : Option Addr) (len cap : Nat) (xs : List Nat) (w : World) (hl : xs.length = len) (hbig : len ≤ 1099511627776) (h0 : len = 0 → a = none → cap = 0) (hr : Rd .u64 w a xs) :
    Calls Tryd.prog 57 #[.slice a len cap] w fun e w' => ∃ v, e = .returned v ∧ own64 w' w.heap.size v xs ∧ Below w.heap.size w w' ∧ (len = 0 → v = .slice none 0 0) := by
  go_enter Tryd.func57, Tryd.ntmps57
  go_wp2_with (at_builtin; refine wpl_appN 22 55 Tryd.underlying22 info64 rfl (by decide) rfl _ _ rfl w.heap.size (.slice none 0 0) 0 [] rfl (World.ownsRow_nil _ _ _ _) a len cap rfl (u64s xs) (by rw [u64s_len]; exact hl) (by rw [← hl]; exact hr.news) h0 (by intro u hu; obtain ⟨x, _, rfl⟩ := List.mem_map.1 hu; rfl) (by omega) (Nat.le_refl _) ?_)
  intro v' w' hown hg hk hn
  have HO := Lib.hid hown
  clear hown
  go_wp2
  go_ret
  refine ⟨v', rfl, ?_, (Below.refl _ _).grown hg (Nat.le_refl _) (fun k hk => by cases hk), fun h => hn rfl (by omega)⟩
  have := HO.out
  rw [← hl] at this
  exact this

set_option maxHeartbeats 400000 in
theorem sign_any (b : Bool) (w : World) :
    Calls Tryd.prog 72 #[.bool b] w fun e w' => e = .returned (.int .i64 (if b then 1 else -1)) ∧ w' = w := by
  cases b
  all_goals
    go_enter Tryd.func72, Tryd.ntmps72
    go_wp2
    go_ret
    exact ⟨rfl, rfl⟩
end Go.Proofs.YteanpdiceaijhaaDoor
