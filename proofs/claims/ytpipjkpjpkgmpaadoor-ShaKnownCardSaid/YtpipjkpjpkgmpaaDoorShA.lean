import Derived.Test.YtpipjkpjpkgmpaaDoorRows
import Derived.WalkKit
import Derived.Handy
import Derived.Lib.Hide
import Derived.Laws.BitsAllLaws
namespace Go.Proofs.YtpipjkpjpkgmpaaDoor
open Go.RowKit

/-! SHA-1 as both sides spell it: numbers are the model's own. -/

def turnI (x : Int) (n : Nat) : Int := bits .or .u32 (IntKind.u32.wrap (x * 2 ^ n)) (x / 2 ^ (32 - n))
def notI (x : Int) : Int := bits BinOp.xor IntKind.u32 IntKind.u32.max x
def fI (t : Nat) (b c d : Int) : Int :=
  if t < 20 then bits .or .u32 (bits .and .u32 b c) (bits .and .u32 (notI b) d)
  else if t < 40 then bits .xor .u32 (bits .xor .u32 b c) d
  else if t < 60 then bits .or .u32 (bits .or .u32 (bits .and .u32 b c) (bits .and .u32 b d)) (bits .and .u32 c d)
  else bits .xor .u32 (bits .xor .u32 b c) d
def kI (t : Nat) : Int := if t < 20 then 1518500249 else if t < 40 then 1859775393 else if t < 60 then 2400959708 else 3395469782

structure S5 where
  a : Int
  b : Int
  c : Int
  d : Int
  e : Int

def S5.cells (s : S5) : List Value := [.int .u32 s.a, .int .u32 s.b, .int .u32 s.c, .int .u32 s.d, .int .u32 s.e]
def start5 : S5 := ⟨1732584193, 4023233417, 2562383102, 271733878, 3285377520⟩
def nextI (t : Nat) (w : Int) (s : S5) : Int := IntKind.u32.wrap (IntKind.u32.wrap (IntKind.u32.wrap (IntKind.u32.wrap (turnI s.a 5 + fI t s.b s.c s.d) + s.e) + kI t) + w)
def step5 (t : Nat) (w : Int) (s : S5) : S5 := ⟨nextI t w s, s.a, turnI s.b 30, s.c, s.d⟩
def rounds5 (ws : List Int) : Nat → S5 → S5
  | 0, s => s
  | t + 1, s => step5 t (ws.getD t 0) (rounds5 ws t s)
def plus5 (s r : S5) : S5 := ⟨IntKind.u32.wrap (s.a + r.a), IntKind.u32.wrap (s.b + r.b), IntKind.u32.wrap (s.c + r.c), IntKind.u32.wrap (s.d + r.d), IntKind.u32.wrap (s.e + r.e)⟩

def laterI (l : List Int) (t : Nat) : Int := turnI (bits .xor .u32 (bits .xor .u32 (bits .xor .u32 (l.getD (t - 3) 0) (l.getD (t - 8) 0)) (l.getD (t - 14) 0)) (l.getD (t - 16) 0)) 1
/-- The first t of a block's eighty numbers. -/
def grow80 (l : List Int) : Nat → List Int
  | 0 => []
  | t + 1 => grow80 l t ++ [if t < 16 then l.getD t 0 else laterI (grow80 l t) t]
theorem grow80_len (l : List Int) : ∀ t, (grow80 l t).length = t
  | 0 => rfl
  | t + 1 => by simp [grow80, grow80_len l t]
theorem grow80_stay (l : List Int) : ∀ t s i, i < t → t ≤ s → (grow80 l s).getD i 0 = (grow80 l t).getD i 0
  | t, 0, i, h1, h2 => by omega
  | t, s + 1, i, h1, h2 => by
    by_cases h : t = s + 1
    · rw [h]
    · have ih := grow80_stay l t s i h1 (by omega)
      rw [← ih, grow80]
      simp only [List.getD_eq_getElem?_getD]
      rw [List.getElem?_append_left (by rw [grow80_len]; omega)]

def wordI (b : List Nat) (i : Nat) : Int := ((((b.getD (4 * i) 0 * 256 + b.getD (4 * i + 1) 0) * 256 + b.getD (4 * i + 2) 0) * 256 + b.getD (4 * i + 3) 0 : Nat) : Int)
def words16 (b : List Nat) : List Int := (List.range 16).map (wordI b)
theorem words16_len (b : List Nat) : (words16 b).length = 16 := by simp [words16]
def block5 (s : S5) (b : List Nat) : S5 := plus5 s (rounds5 (grow80 (words16 b) 80) 80 s)
def blocks5 (s : S5) (b : List Nat) : Nat → S5
  | 0 => s
  | n + 1 => block5 (blocks5 s b n) ((b.drop (64 * n)).take 64)

theorem take_drop_append (a b : List Nat) (k n : Nat) (h : k + n ≤ a.length) : ((a ++ b).drop k).take n = (a.drop k).take n := by
  rw [List.drop_append_of_le_length (by omega), List.take_append_of_le_length (by simp; omega)]
theorem blocks5_append (s : S5) (a b : List Nat) : ∀ n, 64 * n ≤ a.length → blocks5 s (a ++ b) n = blocks5 s a n
  | 0, _ => rfl
  | n + 1, h => by
    rw [blocks5, blocks5, blocks5_append s a b n (by omega), take_drop_append a b _ _ (by omega)]

/-- The number's byte at a place of the twenty. -/
def S5.at (s : S5) : Nat → Int
  | 0 => s.a
  | 1 => s.b
  | 2 => s.c
  | 3 => s.d
  | _ => s.e
def byteI (s : S5) (i : Nat) : Int := s.at (i / 4) / 2 ^ (24 - 8 * (i % 4)) % 256
def bytes20 (s : S5) : List Int := (List.range 20).map (byteI s)

/-- What stands behind a message. -/
def padN (n : Nat) : Nat := (119 - n % 64) % 64
def padI (n : Nat) : List Nat := 128 :: (List.replicate (padN n) 0 ++ (List.range 8).map fun i => n * 8 % 18446744073709551616 / 2 ^ (56 - 8 * i) % 256)
theorem padI_len (n : Nat) : (padI n).length = padN n + 9 := by simp [padI]
theorem padI_whole (n : Nat) : (n + (padI n).length) % 64 = 0 := by rw [padI_len]; unfold padN; omega

/-- SHA-1. -/
def sha5 (m : List Nat) : S5 := blocks5 start5 (m ++ padI m.length) ((m ++ padI m.length).length / 64)
def shaCells (m : List Nat) : List Value := (bytes20 (sha5 m)).map (.int .u8)

end Go.Proofs.YtpipjkpjpkgmpaaDoor
