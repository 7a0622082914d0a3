import Derived.Test.YtaookoejdnkkoaaGreatDoorKBo
import Derived.BigRegion
import Derived.Deep.MidRow
import Derived.Deep.RegionLaw
import Derived.Deep.WholeRow
import Derived.Laws.BitsAllLaws
import Derived.Laws.ResultCell
import Derived.Lib.OthersKept
import Derived.OrdersHeld
import Derived.StillTail
namespace Go.Proofs.YtaookoejdnkkoaaGreatDoor
open Go.RowKit

theorem B8.tail {x : Nat} {xs : List Nat} (h : B8 (x :: xs)) : B8 xs := fun y hy => h y (List.mem_cons_of_mem _ hy)
theorem B8.head {x : Nat} {xs : List Nat} (h : B8 (x :: xs)) : x < 256 := h x (List.mem_cons_self ..)
theorem B8.append {xs ys : List Nat} (h : B8 xs) (k : B8 ys) : B8 (xs ++ ys) := fun y hy => by
  rcases List.mem_append.1 hy with h1 | h1
  · exact h y h1
  · exact k y h1

def low (c : Nat) : Nat := if 65 ≤ c ∧ c ≤ 70 then c + 32 else c
/-- A text of bytes that are numbers. -/
def strN (l : List Nat) : ByteArray := ⟨(l.map UInt8.ofNat).toArray⟩
/-- The numbers of a text. -/
def bsN (s : ByteArray) : List Nat := s.data.toList.map UInt8.toNat
theorem bsN_len (s : ByteArray) : (bsN s).length = s.size := by
  show _ = s.data.size
  simp [bsN]
theorem bsN_strN {l : List Nat} (h : B8 l) : bsN (strN l) = l := by
  unfold bsN strN
  rw [List.map_map]
  refine (List.map_congr_left fun x hx => ?_).trans (List.map_id l)
  have := h x hx
  show (UInt8.ofNat x).toNat = x
  rw [UInt8.toNat_ofNat', Nat.mod_eq_of_lt this]
/-- A row of bytes as a text. -/
theorem own_text {w : World} {B n : Nat} {v : Value} {zs : List Nat} (h : w.ownsRow B 5 1 v n (u8s zs)) (hn : zs.length = n) :
    ∀ dst, Tryz.prog.underlying dst = some .string → (convert 40 dst v).run Tryz.prog w = .ok (.string (strN zs)) w := by
  intro dst hd
  rcases h.2 with ⟨rfl, h0⟩ | ⟨g, c1, cur, rfl, _, _, _, _, _, _⟩
  · have e : zs = [] := List.eq_nil_of_length_eq_zero (by omega)
    subst e
    exact run_convert_bytes_nil (P := Tryz.prog) w 40 5 Tryz.underlying40 Tryz.underlying5 0 0 dst hd
  · have := run_convert_bytes_arg (P := Tryz.prog) w 40 5 Tryz.underlying40 Tryz.underlying5 g 0 n c1 (zs.map fun (x : Nat) => (x : Int)) (by simp [hn]) (fun i hi => by
      rw [Nat.zero_add, World.ownsRow.cellAt h i (by omega), u8s_at zs i (by omega)]
      simp [at0_getElem, hn, hi, List.getD]) dst hd
    rw [this]
    simp [strOfNums, strN, Function.comp_def]

end Go.Proofs.YtaookoejdnkkoaaGreatDoor
