/-
  NARROWER THAN 'FOR EVERY INPUT', by the rows' own cells (each row's printed sentence says how): ShaPieces: laid · ShaKnown: laid · CodingTells: laid · CodingReads: laid · CodingBack: laid · CodingOnce: laid · CodingKnown: laid.
  DERIVED. THE GIVEN ROWS OF THIS SEAT. 7 by the template 'for every input the law returns true; each argument reads behind the call as it read before'; 0 by the template 'total and deterministic' (their statements: YtpipjkpjpkgmpaaDoorTotals.lean).
  GIVEN WITH THE SEED: the statements are not yours to turn. If you find one false, say at which input.
  Laid BY PROGRAM, IN A SANDBOX (cutbox-rows.mjs): the forced cells as the released guide's own fill.sh prints them over the translation e47bd0a7f86be711… (all of the seat's roots in one cut). By AI agents, Wed Nov 11 2026. No macro, syntax, notation, axiom, sorry.
-/
import Derived.Test.YtpipjkpjpkgmpaaDoorChecked
import GoSem.Claim
import GoSem.ClaimJoined
import GoSem.ClaimMapViews
import Derived.JoinedTies
import Derived.KernelRfl
namespace Go.Proofs.YtpipjkpjpkgmpaaDoor
/- THE CELL 'sum', in the pinned program and in every row, IS THE sha256 OF THE DUMP (.gsa) THAT YtpipjkpjpkgmpaaDoorProg.lean LOADS. Nothing in Lean hashes anything: it is a label: what it is worth is what the hold of that sum in a sandbox is worth. -/
noncomputable def Tryd.pinned : Pinned := { name := "ytpipjkpjpkgmpaadoor", sum := "e47bd0a7f86be7116f01f6eb5b81da1f5a670421bae8267c1951639424916d69", checked := Tryd.checked }
namespace Rows
def none {H : Type} : Left H := { results := [], args := [] }

/- WHAT THE LISTED PACKAGE-LEVEL VARIABLES READ AS WHEN THE CALL BEGINS. Each datum BY PROGRAM (the guide's laid-datum.mjs) off the statement by which the dump's own 'gosem.cut.vars' lays the variable. In a bare row this is a premise. The card (YtpipjkpjpkgmpaaDoorCards.lean) ties it to the program's text. -/
def laid_vouch_sha_start {H : Type} : DataW H := .agg [.lit (.int .u32 1732584193), .lit (.int .u32 4023233417), .lit (.int .u32 2562383102), .lit (.int .u32 271733878), .lit (.int .u32 3285377520)]
def laid_vouch_coding_hexWorths {H : Type} : DataW H := .agg [.lit (.int .i8 (-1)), .lit (.int .i8 (-1)), .lit (.int .i8 (-1)), .lit (.int .i8 (-1)), .lit (.int .i8 (-1)), .lit (.int .i8 (-1)), .lit (.int .i8 (-1)), .lit (.int .i8 (-1)), .lit (.int .i8 (-1)), .lit (.int .i8 (-1)), .lit (.int .i8 (-1)), .lit (.int .i8 (-1)), .lit (.int .i8 (-1)), .lit (.int .i8 (-1)), .lit (.int .i8 (-1)), .lit (.int .i8 (-1)), .lit (.int .i8 (-1)), .lit (.int .i8 (-1)), .lit (.int .i8 (-1)), .lit (.int .i8 (-1)), .lit (.int .i8 (-1)), .lit (.int .i8 (-1)), .lit (.int .i8 (-1)), .lit (.int .i8 (-1)), .lit (.int .i8 (-1)), .lit (.int .i8 (-1)), .lit (.int .i8 (-1)), .lit (.int .i8 (-1)), .lit (.int .i8 (-1)), .lit (.int .i8 (-1)), .lit (.int .i8 (-1)), .lit (.int .i8 (-1)), .lit (.int .i8 (-1)), .lit (.int .i8 (-1)), .lit (.int .i8 (-1)), .lit (.int .i8 (-1)), .lit (.int .i8 (-1)), .lit (.int .i8 (-1)), .lit (.int .i8 (-1)), .lit (.int .i8 (-1)), .lit (.int .i8 (-1)), .lit (.int .i8 (-1)), .lit (.int .i8 (-1)), .lit (.int .i8 (-1)), .lit (.int .i8 (-1)), .lit (.int .i8 (-1)), .lit (.int .i8 (-1)), .lit (.int .i8 (-1)), .lit (.int .i8 0), .lit (.int .i8 1), .lit (.int .i8 2), .lit (.int .i8 3), .lit (.int .i8 4), .lit (.int .i8 5), .lit (.int .i8 6), .lit (.int .i8 7), .lit (.int .i8 8), .lit (.int .i8 9), .lit (.int .i8 (-1)), .lit (.int .i8 (-1)), .lit (.int .i8 (-1)), .lit (.int .i8 (-1)), .lit (.int .i8 (-1)), .lit (.int .i8 (-1)), .lit (.int .i8 (-1)), .lit (.int .i8 10), .lit (.int .i8 11), .lit (.int .i8 12), .lit (.int .i8 13), .lit (.int .i8 14), .lit (.int .i8 15), .lit (.int .i8 (-1)), .lit (.int .i8 (-1)), .lit (.int .i8 (-1)), .lit (.int .i8 (-1)), .lit (.int .i8 (-1)), .lit (.int .i8 (-1)), .lit (.int .i8 (-1)), .lit (.int .i8 (-1)), .lit (.int .i8 (-1)), .lit (.int .i8 (-1)), .lit (.int .i8 (-1)), .lit (.int .i8 (-1)), .lit (.int .i8 (-1)), .lit (.int .i8 (-1)), .lit (.int .i8 (-1)), .lit (.int .i8 (-1)), .lit (.int .i8 (-1)), .lit (.int .i8 (-1)), .lit (.int .i8 (-1)), .lit (.int .i8 (-1)), .lit (.int .i8 (-1)), .lit (.int .i8 (-1)), .lit (.int .i8 (-1)), .lit (.int .i8 (-1)), .lit (.int .i8 (-1)), .lit (.int .i8 (-1)), .lit (.int .i8 10), .lit (.int .i8 11), .lit (.int .i8 12), .lit (.int .i8 13), .lit (.int .i8 14), .lit (.int .i8 15), .lit (.int .i8 (-1)), .lit (.int .i8 (-1)), .lit (.int .i8 (-1)), .lit (.int .i8 (-1)), .lit (.int .i8 (-1)), .lit (.int .i8 (-1)), .lit (.int .i8 (-1)), .lit (.int .i8 (-1)), .lit (.int .i8 (-1)), .lit (.int .i8 (-1)), .lit (.int .i8 (-1)), .lit (.int .i8 (-1)), .lit (.int .i8 (-1)), .lit (.int .i8 (-1)), .lit (.int .i8 (-1)), .lit (.int .i8 (-1)), .lit (.int .i8 (-1)), .lit (.int .i8 (-1)), .lit (.int .i8 (-1)), .lit (.int .i8 (-1)), .lit (.int .i8 (-1)), .lit (.int .i8 (-1)), .lit (.int .i8 (-1)), .lit (.int .i8 (-1)), .lit (.int .i8 (-1))]
def laid_vouch_coding_base64Worths {H : Type} : DataW H := .agg [.lit (.int .i8 (-1)), .lit (.int .i8 (-1)), .lit (.int .i8 (-1)), .lit (.int .i8 (-1)), .lit (.int .i8 (-1)), .lit (.int .i8 (-1)), .lit (.int .i8 (-1)), .lit (.int .i8 (-1)), .lit (.int .i8 (-1)), .lit (.int .i8 (-1)), .lit (.int .i8 (-1)), .lit (.int .i8 (-1)), .lit (.int .i8 (-1)), .lit (.int .i8 (-1)), .lit (.int .i8 (-1)), .lit (.int .i8 (-1)), .lit (.int .i8 (-1)), .lit (.int .i8 (-1)), .lit (.int .i8 (-1)), .lit (.int .i8 (-1)), .lit (.int .i8 (-1)), .lit (.int .i8 (-1)), .lit (.int .i8 (-1)), .lit (.int .i8 (-1)), .lit (.int .i8 (-1)), .lit (.int .i8 (-1)), .lit (.int .i8 (-1)), .lit (.int .i8 (-1)), .lit (.int .i8 (-1)), .lit (.int .i8 (-1)), .lit (.int .i8 (-1)), .lit (.int .i8 (-1)), .lit (.int .i8 (-1)), .lit (.int .i8 (-1)), .lit (.int .i8 (-1)), .lit (.int .i8 (-1)), .lit (.int .i8 (-1)), .lit (.int .i8 (-1)), .lit (.int .i8 (-1)), .lit (.int .i8 (-1)), .lit (.int .i8 (-1)), .lit (.int .i8 (-1)), .lit (.int .i8 (-1)), .lit (.int .i8 62), .lit (.int .i8 (-1)), .lit (.int .i8 (-1)), .lit (.int .i8 (-1)), .lit (.int .i8 63), .lit (.int .i8 52), .lit (.int .i8 53), .lit (.int .i8 54), .lit (.int .i8 55), .lit (.int .i8 56), .lit (.int .i8 57), .lit (.int .i8 58), .lit (.int .i8 59), .lit (.int .i8 60), .lit (.int .i8 61), .lit (.int .i8 (-1)), .lit (.int .i8 (-1)), .lit (.int .i8 (-1)), .lit (.int .i8 (-1)), .lit (.int .i8 (-1)), .lit (.int .i8 (-1)), .lit (.int .i8 (-1)), .lit (.int .i8 0), .lit (.int .i8 1), .lit (.int .i8 2), .lit (.int .i8 3), .lit (.int .i8 4), .lit (.int .i8 5), .lit (.int .i8 6), .lit (.int .i8 7), .lit (.int .i8 8), .lit (.int .i8 9), .lit (.int .i8 10), .lit (.int .i8 11), .lit (.int .i8 12), .lit (.int .i8 13), .lit (.int .i8 14), .lit (.int .i8 15), .lit (.int .i8 16), .lit (.int .i8 17), .lit (.int .i8 18), .lit (.int .i8 19), .lit (.int .i8 20), .lit (.int .i8 21), .lit (.int .i8 22), .lit (.int .i8 23), .lit (.int .i8 24), .lit (.int .i8 25), .lit (.int .i8 (-1)), .lit (.int .i8 (-1)), .lit (.int .i8 (-1)), .lit (.int .i8 (-1)), .lit (.int .i8 (-1)), .lit (.int .i8 (-1)), .lit (.int .i8 26), .lit (.int .i8 27), .lit (.int .i8 28), .lit (.int .i8 29), .lit (.int .i8 30), .lit (.int .i8 31), .lit (.int .i8 32), .lit (.int .i8 33), .lit (.int .i8 34), .lit (.int .i8 35), .lit (.int .i8 36), .lit (.int .i8 37), .lit (.int .i8 38), .lit (.int .i8 39), .lit (.int .i8 40), .lit (.int .i8 41), .lit (.int .i8 42), .lit (.int .i8 43), .lit (.int .i8 44), .lit (.int .i8 45), .lit (.int .i8 46), .lit (.int .i8 47), .lit (.int .i8 48), .lit (.int .i8 49), .lit (.int .i8 50), .lit (.int .i8 51), .lit (.int .i8 (-1)), .lit (.int .i8 (-1)), .lit (.int .i8 (-1)), .lit (.int .i8 (-1)), .lit (.int .i8 (-1))]

/-- 'vouchlaw05.ShaPieces': WHATEVER THE INPUT: true; the input reads as it did. -/
def shaPiecesSpec : ChangeSpec := { name := "shaPieces", fn := fun _ => fun
  | [d] => { results := [.lit (.bool true)], args := [d] }
  | _ => none }
def shaPiecesRow : OpenClaim := { program := "ytpipjkpjpkgmpaadoor", sum := "e47bd0a7f86be7116f01f6eb5b81da1f5a670421bae8267c1951639424916d69", func := "vouch/vouchlaw05.ShaPieces", spec := "shaPieces", named := ["vouch/sha.start"], apart := false, laid := [("vouch/sha.start", laid_vouch_sha_start)] }
def ShaPiecesSaid : Prop := shaPiecesRow.holds Tryd.pinned (OpenSpec.ofChange shaPiecesSpec)

/-- ITS FALSE NEIGHBOUR: 'it returns false'. Refute it at one input. -/
def shaPiecesWrong : ChangeSpec := { name := "shaPieces", fn := fun _ => fun
  | [d] => { results := [.lit (.bool false)], args := [d] }
  | _ => none }
def ShaPiecesWrongFalsely : Prop := shaPiecesRow.holds Tryd.pinned (OpenSpec.ofChange shaPiecesWrong)

/-- 'vouchlaw05.ShaKnown': WHATEVER THE INPUT: true; the input reads as it did. -/
def shaKnownSpec : ChangeSpec := { name := "shaKnown", fn := fun _ => fun
  | [] => { results := [.lit (.bool true)], args := [] }
  | _ => none }
def shaKnownRow : OpenClaim := { program := "ytpipjkpjpkgmpaadoor", sum := "e47bd0a7f86be7116f01f6eb5b81da1f5a670421bae8267c1951639424916d69", func := "vouch/vouchlaw05.ShaKnown", spec := "shaKnown", named := ["vouch/sha.start"], apart := false, laid := [("vouch/sha.start", laid_vouch_sha_start)] }
def ShaKnownSaid : Prop := shaKnownRow.holds Tryd.pinned (OpenSpec.ofChange shaKnownSpec)

/-- ITS FALSE NEIGHBOUR: 'it returns false'. Refute it at one input. -/
def shaKnownWrong : ChangeSpec := { name := "shaKnown", fn := fun _ => fun
  | [] => { results := [.lit (.bool false)], args := [] }
  | _ => none }
def ShaKnownWrongFalsely : Prop := shaKnownRow.holds Tryd.pinned (OpenSpec.ofChange shaKnownWrong)

/-- 'vouchlaw06.CodingTells': WHATEVER THE INPUT: true; the input reads as it did. -/
def codingTellsSpec : ChangeSpec := { name := "codingTells", fn := fun _ => fun
  | [d] => { results := [.lit (.bool true)], args := [d] }
  | _ => none }
def codingTellsRow : OpenClaim := { program := "ytpipjkpjpkgmpaadoor", sum := "e47bd0a7f86be7116f01f6eb5b81da1f5a670421bae8267c1951639424916d69", func := "vouch/vouchlaw06.CodingTells", spec := "codingTells", named := ["vouch/coding.hexWorths", "vouch/coding.base64Worths"], apart := false, laid := [("vouch/coding.hexWorths", laid_vouch_coding_hexWorths), ("vouch/coding.base64Worths", laid_vouch_coding_base64Worths)] }
def CodingTellsSaid : Prop := codingTellsRow.holds Tryd.pinned (OpenSpec.ofChange codingTellsSpec)

/-- ITS FALSE NEIGHBOUR: 'it returns false'. Refute it at one input. -/
def codingTellsWrong : ChangeSpec := { name := "codingTells", fn := fun _ => fun
  | [d] => { results := [.lit (.bool false)], args := [d] }
  | _ => none }
def CodingTellsWrongFalsely : Prop := codingTellsRow.holds Tryd.pinned (OpenSpec.ofChange codingTellsWrong)

/-- 'vouchlaw06.CodingReads': WHATEVER THE INPUT: true; the input reads as it did. -/
def codingReadsSpec : ChangeSpec := { name := "codingReads", fn := fun _ => fun
  | [d] => { results := [.lit (.bool true)], args := [d] }
  | _ => none }
def codingReadsRow : OpenClaim := { program := "ytpipjkpjpkgmpaadoor", sum := "e47bd0a7f86be7116f01f6eb5b81da1f5a670421bae8267c1951639424916d69", func := "vouch/vouchlaw06.CodingReads", spec := "codingReads", named := ["vouch/coding.hexWorths", "vouch/coding.base64Worths"], apart := false, laid := [("vouch/coding.hexWorths", laid_vouch_coding_hexWorths), ("vouch/coding.base64Worths", laid_vouch_coding_base64Worths)] }
def CodingReadsSaid : Prop := codingReadsRow.holds Tryd.pinned (OpenSpec.ofChange codingReadsSpec)

/-- ITS FALSE NEIGHBOUR: 'it returns false'. Refute it at one input. -/
def codingReadsWrong : ChangeSpec := { name := "codingReads", fn := fun _ => fun
  | [d] => { results := [.lit (.bool false)], args := [d] }
  | _ => none }
def CodingReadsWrongFalsely : Prop := codingReadsRow.holds Tryd.pinned (OpenSpec.ofChange codingReadsWrong)

/-- 'vouchlaw06.CodingBack': WHATEVER THE INPUT: true; the input reads as it did. -/
def codingBackSpec : ChangeSpec := { name := "codingBack", fn := fun _ => fun
  | [d1, d2] => { results := [.lit (.bool true)], args := [d1, d2] }
  | _ => none }
def codingBackRow : OpenClaim := { program := "ytpipjkpjpkgmpaadoor", sum := "e47bd0a7f86be7116f01f6eb5b81da1f5a670421bae8267c1951639424916d69", func := "vouch/vouchlaw06.CodingBack", spec := "codingBack", named := ["vouch/coding.hexWorths", "vouch/coding.base64Worths"], apart := false, laid := [("vouch/coding.hexWorths", laid_vouch_coding_hexWorths), ("vouch/coding.base64Worths", laid_vouch_coding_base64Worths)] }
def CodingBackSaid : Prop := codingBackRow.holds Tryd.pinned (OpenSpec.ofChange codingBackSpec)

/-- ITS FALSE NEIGHBOUR: 'it returns false'. Refute it at one input. -/
def codingBackWrong : ChangeSpec := { name := "codingBack", fn := fun _ => fun
  | [d1, d2] => { results := [.lit (.bool false)], args := [d1, d2] }
  | _ => none }
def CodingBackWrongFalsely : Prop := codingBackRow.holds Tryd.pinned (OpenSpec.ofChange codingBackWrong)

/-- 'vouchlaw06.CodingOnce': WHATEVER THE INPUT: true; the input reads as it did. -/
def codingOnceSpec : ChangeSpec := { name := "codingOnce", fn := fun _ => fun
  | [d] => { results := [.lit (.bool true)], args := [d] }
  | _ => none }
def codingOnceRow : OpenClaim := { program := "ytpipjkpjpkgmpaadoor", sum := "e47bd0a7f86be7116f01f6eb5b81da1f5a670421bae8267c1951639424916d69", func := "vouch/vouchlaw06.CodingOnce", spec := "codingOnce", named := ["vouch/coding.base64Worths", "vouch/coding.hexWorths"], apart := false, laid := [("vouch/coding.hexWorths", laid_vouch_coding_hexWorths), ("vouch/coding.base64Worths", laid_vouch_coding_base64Worths)] }
def CodingOnceSaid : Prop := codingOnceRow.holds Tryd.pinned (OpenSpec.ofChange codingOnceSpec)

/-- ITS FALSE NEIGHBOUR: 'it returns false'. Refute it at one input. -/
def codingOnceWrong : ChangeSpec := { name := "codingOnce", fn := fun _ => fun
  | [d] => { results := [.lit (.bool false)], args := [d] }
  | _ => none }
def CodingOnceWrongFalsely : Prop := codingOnceRow.holds Tryd.pinned (OpenSpec.ofChange codingOnceWrong)

/-- 'vouchlaw06.CodingKnown': WHATEVER THE INPUT: true; the input reads as it did. -/
def codingKnownSpec : ChangeSpec := { name := "codingKnown", fn := fun _ => fun
  | [] => { results := [.lit (.bool true)], args := [] }
  | _ => none }
def codingKnownRow : OpenClaim := { program := "ytpipjkpjpkgmpaadoor", sum := "e47bd0a7f86be7116f01f6eb5b81da1f5a670421bae8267c1951639424916d69", func := "vouch/vouchlaw06.CodingKnown", spec := "codingKnown", named := ["vouch/coding.hexWorths", "vouch/coding.base64Worths"], apart := false, laid := [("vouch/coding.hexWorths", laid_vouch_coding_hexWorths), ("vouch/coding.base64Worths", laid_vouch_coding_base64Worths)] }
def CodingKnownSaid : Prop := codingKnownRow.holds Tryd.pinned (OpenSpec.ofChange codingKnownSpec)

/-- ITS FALSE NEIGHBOUR: 'it returns false'. Refute it at one input. -/
def codingKnownWrong : ChangeSpec := { name := "codingKnown", fn := fun _ => fun
  | [] => { results := [.lit (.bool false)], args := [] }
  | _ => none }
def CodingKnownWrongFalsely : Prop := codingKnownRow.holds Tryd.pinned (OpenSpec.ofChange codingKnownWrong)

/- THE SECOND FORM. 'bulk': how many values and letters a reading holds, each counted each time it is reached (what is shared counts as often as it is met; a slice's spare places count too). A statement '..UptoSaid' is the law's where the arguments, and the package variables that the reading takes, are together of bulk at most 1048576: NARROWER than '..Said'. Prove '..Said' where nothing that the law and all that it calls make is longer than what came in: it says more and counts as full. Else prove '..UptoSaid'. A law counts once. -/
mutual
def uptoBulk {H : Type} : DataW H → Nat
  | .lit (.string bytes) => bytes.length + 1
  | .lit _ => 1
  | .nil => 1
  | .ptr d => uptoBulk d + 1
  | .slice elems spare => uptoBulkAll elems + uptoBulkAll spare + 1
  | .agg parts => uptoBulkAll parts + 1
  | .iface _ d => uptoBulk d + 1
  | .map entries => uptoBulkEntries entries + 1
  | .held _ => 1
def uptoBulkAll {H : Type} : List (DataW H) → Nat
  | [] => 0
  | d :: r => uptoBulk d + uptoBulkAll r
def uptoBulkEntries {H : Type} : List (Lit × DataW H) → Nat
  | [] => 0
  | x :: r => uptoBulkEntry x + uptoBulkEntries r
def uptoBulkEntry {H : Type} : Lit × DataW H → Nat
  | (.string bytes, d) => bytes.length + uptoBulk d + 1
  | (_, d) => uptoBulk d + 1
 end
def uptoSmall : (H : Type) → List (DataW H) → Bool := fun _ ds => decide (uptoBulkAll ds ≤ 1048576)
def OpenSpec.upto (s : _root_.Go.ChangeSpec) : _root_.Go.OpenSpec := { _root_.Go.OpenSpec.ofChange s with cond := some uptoSmall }

/-- 'vouchlaw05.ShaPieces', WHERE WHAT IT READS IS OF BULK AT MOST 1048576: true; the input reads as it did. -/
def shaPiecesUptoRow : OpenClaim := { program := "ytpipjkpjpkgmpaadoor", sum := "e47bd0a7f86be7116f01f6eb5b81da1f5a670421bae8267c1951639424916d69", func := "vouch/vouchlaw05.ShaPieces", spec := "shaPieces", named := ["vouch/sha.start"], apart := false, laid := [("vouch/sha.start", laid_vouch_sha_start)], narrowed := true }
def ShaPiecesUptoSaid : Prop := shaPiecesUptoRow.holds Tryd.pinned (OpenSpec.upto shaPiecesSpec)

/-- 'vouchlaw05.ShaKnown', WHERE WHAT IT READS IS OF BULK AT MOST 1048576: true; the input reads as it did. -/
def shaKnownUptoRow : OpenClaim := { program := "ytpipjkpjpkgmpaadoor", sum := "e47bd0a7f86be7116f01f6eb5b81da1f5a670421bae8267c1951639424916d69", func := "vouch/vouchlaw05.ShaKnown", spec := "shaKnown", named := ["vouch/sha.start"], apart := false, laid := [("vouch/sha.start", laid_vouch_sha_start)], narrowed := true }
def ShaKnownUptoSaid : Prop := shaKnownUptoRow.holds Tryd.pinned (OpenSpec.upto shaKnownSpec)

/-- 'vouchlaw06.CodingTells', WHERE WHAT IT READS IS OF BULK AT MOST 1048576: true; the input reads as it did. -/
def codingTellsUptoRow : OpenClaim := { program := "ytpipjkpjpkgmpaadoor", sum := "e47bd0a7f86be7116f01f6eb5b81da1f5a670421bae8267c1951639424916d69", func := "vouch/vouchlaw06.CodingTells", spec := "codingTells", named := ["vouch/coding.hexWorths", "vouch/coding.base64Worths"], apart := false, laid := [("vouch/coding.hexWorths", laid_vouch_coding_hexWorths), ("vouch/coding.base64Worths", laid_vouch_coding_base64Worths)], narrowed := true }
def CodingTellsUptoSaid : Prop := codingTellsUptoRow.holds Tryd.pinned (OpenSpec.upto codingTellsSpec)

/-- 'vouchlaw06.CodingReads', WHERE WHAT IT READS IS OF BULK AT MOST 1048576: true; the input reads as it did. -/
def codingReadsUptoRow : OpenClaim := { program := "ytpipjkpjpkgmpaadoor", sum := "e47bd0a7f86be7116f01f6eb5b81da1f5a670421bae8267c1951639424916d69", func := "vouch/vouchlaw06.CodingReads", spec := "codingReads", named := ["vouch/coding.hexWorths", "vouch/coding.base64Worths"], apart := false, laid := [("vouch/coding.hexWorths", laid_vouch_coding_hexWorths), ("vouch/coding.base64Worths", laid_vouch_coding_base64Worths)], narrowed := true }
def CodingReadsUptoSaid : Prop := codingReadsUptoRow.holds Tryd.pinned (OpenSpec.upto codingReadsSpec)

/-- 'vouchlaw06.CodingBack', WHERE WHAT IT READS IS OF BULK AT MOST 1048576: true; the input reads as it did. -/
def codingBackUptoRow : OpenClaim := { program := "ytpipjkpjpkgmpaadoor", sum := "e47bd0a7f86be7116f01f6eb5b81da1f5a670421bae8267c1951639424916d69", func := "vouch/vouchlaw06.CodingBack", spec := "codingBack", named := ["vouch/coding.hexWorths", "vouch/coding.base64Worths"], apart := false, laid := [("vouch/coding.hexWorths", laid_vouch_coding_hexWorths), ("vouch/coding.base64Worths", laid_vouch_coding_base64Worths)], narrowed := true }
def CodingBackUptoSaid : Prop := codingBackUptoRow.holds Tryd.pinned (OpenSpec.upto codingBackSpec)

/-- 'vouchlaw06.CodingOnce', WHERE WHAT IT READS IS OF BULK AT MOST 1048576: true; the input reads as it did. -/
def codingOnceUptoRow : OpenClaim := { program := "ytpipjkpjpkgmpaadoor", sum := "e47bd0a7f86be7116f01f6eb5b81da1f5a670421bae8267c1951639424916d69", func := "vouch/vouchlaw06.CodingOnce", spec := "codingOnce", named := ["vouch/coding.base64Worths", "vouch/coding.hexWorths"], apart := false, laid := [("vouch/coding.hexWorths", laid_vouch_coding_hexWorths), ("vouch/coding.base64Worths", laid_vouch_coding_base64Worths)], narrowed := true }
def CodingOnceUptoSaid : Prop := codingOnceUptoRow.holds Tryd.pinned (OpenSpec.upto codingOnceSpec)

/-- 'vouchlaw06.CodingKnown', WHERE WHAT IT READS IS OF BULK AT MOST 1048576: true; the input reads as it did. -/
def codingKnownUptoRow : OpenClaim := { program := "ytpipjkpjpkgmpaadoor", sum := "e47bd0a7f86be7116f01f6eb5b81da1f5a670421bae8267c1951639424916d69", func := "vouch/vouchlaw06.CodingKnown", spec := "codingKnown", named := ["vouch/coding.hexWorths", "vouch/coding.base64Worths"], apart := false, laid := [("vouch/coding.hexWorths", laid_vouch_coding_hexWorths), ("vouch/coding.base64Worths", laid_vouch_coding_base64Worths)], narrowed := true }
def CodingKnownUptoSaid : Prop := codingKnownUptoRow.holds Tryd.pinned (OpenSpec.upto codingKnownSpec)

end Rows
end Go.Proofs.YtpipjkpjpkgmpaaDoor
