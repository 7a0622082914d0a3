import Derived.Test.YteanpdiceaijhaaDoorKit
namespace Go.Proofs.YteanpdiceaijhaaDoor
open Go.RowKit

def mk (k i : Int) : Int := bits BinOp.xor IntKind.u64 (IntKind.u64.wrap (IntKind.u64.wrap (wrap64 (k + 1)) * 11400714819323198485)) (IntKind.u64.wrap (IntKind.u64.wrap (wrap64 (i + 1)) * 15074714826142052245))

set_option maxHeartbeats 400000 in
theorem mark_any (k i : Int) (w : World) :
    Calls Tryd.prog 54 #[.int .i64 k, .int .i64 i] w fun e w' => e = .returned (.int .u64 (mk k i)) ∧ w = w' := by
  go_enter Tryd.func54, Tryd.ntmps54
  go_wp2
  go_ret
  exact ⟨rfl, rfl⟩

def u8s (xs : List Nat) : List Value := xs.map fun (x : Nat) => Value.int .u8 x
def mk8 (i : Int) : Value := .int .u8 (IntKind.u8.wrap (mk 90 i))
def mks8 (k : Nat) : List Value := (List.range k).map fun (i : Nat) => mk8 i

theorem take_snoc (xs : List Nat) (k x : Nat) (h : k < xs.length) (hx : Hid (xs.getD k 0 = x)) : xs.take (k + 1) = xs.take k ++ [x] := by
  have h2 : xs[k] = x := by simpa [List.getD, h] using hx.out
  rw [List.take_add_one, List.getElem?_eq_getElem h, h2]; rfl
theorem u8s_snoc (xs : List Nat) (k x : Nat) (h : k < xs.length) (hx : Hid (xs.getD k 0 = x)) : u8s (xs.take (k + 1)) = u8s (xs.take k) ++ [.int .u8 (x : Nat)] := by
  rw [take_snoc xs k x h hx]; simp [u8s]
theorem mks8_snoc (k : Nat) : mks8 (k + 1) = mks8 k ++ [mk8 k] := by
  unfold mks8; rw [List.range_succ]; simp
theorem mks8_len (k : Nat) : (mks8 k).length = k := by simp [mks8]
theorem u8s_len (xs : List Nat) : (u8s xs).length = xs.length := by simp [u8s]

end Go.Proofs.YteanpdiceaijhaaDoor
