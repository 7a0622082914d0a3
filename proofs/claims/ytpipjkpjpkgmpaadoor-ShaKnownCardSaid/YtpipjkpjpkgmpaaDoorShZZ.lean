import Derived.Test.YtpipjkpjpkgmpaaDoorShY
import Derived.Test.YtpipjkpjpkgmpaaDoorShZ
namespace Go.Proofs.YtpipjkpjpkgmpaaDoor
open Go.RowKit

set_option maxHeartbeats 800000 in
theorem shaCuts_any (a : Option Addr) (len cap : Nat) (b : List Nat) (i0 k0 : Int) (w : World) (hl : b.length = len) (hcap : len ≤ cap) (hna : a = none → cap = 0) (hmax : len ≤ 9223372036854775807) (hb : ∀ x ∈ b, x < 256) (hr : Rd .u8 w a b) (hF : Five w)
    (hi : -9223372036854775808 ≤ i0 ∧ i0 ≤ 9223372036854775807) (hk : -9223372036854775808 ≤ k0 ∧ k0 ≤ 9223372036854775807) :
    Calls Tryd.prog 23 #[.slice a len cap, .int .i64 i0, .int .i64 k0] w fun e w' => e = .returned (.bool true) ∧ Below w.heap.size w w' := by
  by_cases hbig : 16384 < len
  · have hq : decide ((16384 : Int) < (len : Int)) = true := decide_eq_true (by omega)
    clear hr hF
    go_enter Tryd.func23, Tryd.ntmps23
    go_wp2
    go_ret
    exact ⟨rfl, Below.refl _ _⟩
  · rcases a with _ | p
    · obtain rfl := hna rfl
      obtain rfl : len = 0 := by omega
      exact cuts_none i0 k0 w hF hi.1 hi.2 hk.1 hk.2
    · exact cuts_some p len cap b i0 k0 w hl (by omega) hcap hb hr hF hi.1 hi.2 hk.1 hk.2
end Go.Proofs.YtpipjkpjpkgmpaaDoor
