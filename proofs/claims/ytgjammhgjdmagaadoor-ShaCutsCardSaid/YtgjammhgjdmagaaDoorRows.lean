/-
  NARROWER THAN 'FOR EVERY INPUT', by the rows' own cells (each row's printed sentence says how): ShaSums: laid · ShaPieces: laid · ShaPads: laid · ShaCuts: laid · ShaFills: laid · ShaKnown: laid.
  DERIVED. THE GIVEN ROWS OF THIS SEAT. 6 by the template 'for every input the law returns true; each argument reads behind the call as it read before'; 0 by the template 'total and deterministic' (their statements: YtgjammhgjdmagaaDoorTotals.lean).
  GIVEN WITH THE SEED: the statements are not yours to turn. If you find one false, say at which input.
  Laid BY PROGRAM, IN A SANDBOX (cutbox-rows.mjs): the forced cells as the released guide's own fill.sh prints them over the translation 221be85e2a5ffd66… (all of the seat's roots in one cut). By AI agents, Wed Nov 11 2026. No macro, syntax, notation, axiom, sorry.
-/
import Derived.Test.YtgjammhgjdmagaaDoorChecked
import GoSem.Claim
import GoSem.ClaimJoined
import GoSem.ClaimMapViews
import Derived.JoinedTies
import Derived.KernelRfl
namespace Go.Proofs.YtgjammhgjdmagaaDoor
/- THE CELL 'sum', in the pinned program and in every row, IS THE sha256 OF THE DUMP (.gsa) THAT YtgjammhgjdmagaaDoorProg.lean LOADS. Nothing in Lean hashes anything: it is a label: what it is worth is what the hold of that sum in a sandbox is worth. -/
noncomputable def Tryd.pinned : Pinned := { name := "ytgjammhgjdmagaadoor", sum := "221be85e2a5ffd66d721f81503f8c5c66ee4da89bae9ad2264d1fd95836c960b", checked := Tryd.checked }
namespace Rows
def none {H : Type} : Left H := { results := [], args := [] }

/- WHAT THE LISTED PACKAGE-LEVEL VARIABLES READ AS WHEN THE CALL BEGINS. Each datum BY PROGRAM (the guide's laid-datum.mjs) off the statement by which the dump's own 'gosem.cut.vars' lays the variable. In a bare row this is a premise. The card (YtgjammhgjdmagaaDoorCards.lean) ties it to the program's text. -/
def laid_vouch_sha_start {H : Type} : DataW H := .agg [.lit (.int .u32 1732584193), .lit (.int .u32 4023233417), .lit (.int .u32 2562383102), .lit (.int .u32 271733878), .lit (.int .u32 3285377520)]

/-- 'vouchlaw05.ShaSums': WHATEVER THE INPUT: true; the input reads as it did. -/
def shaSumsSpec : ChangeSpec := { name := "shaSums", fn := fun _ => fun
  | [d] => { results := [.lit (.bool true)], args := [d] }
  | _ => none }
def shaSumsRow : OpenClaim := { program := "ytgjammhgjdmagaadoor", sum := "221be85e2a5ffd66d721f81503f8c5c66ee4da89bae9ad2264d1fd95836c960b", func := "vouch/vouchlaw05.ShaSums", spec := "shaSums", named := ["vouch/sha.start"], apart := false, laid := [("vouch/sha.start", laid_vouch_sha_start)] }
def ShaSumsSaid : Prop := shaSumsRow.holds Tryd.pinned (OpenSpec.ofChange shaSumsSpec)

/-- ITS FALSE NEIGHBOUR: 'it returns false'. Refute it at one input. -/
def shaSumsWrong : ChangeSpec := { name := "shaSums", fn := fun _ => fun
  | [d] => { results := [.lit (.bool false)], args := [d] }
  | _ => none }
def ShaSumsWrongFalsely : Prop := shaSumsRow.holds Tryd.pinned (OpenSpec.ofChange shaSumsWrong)

/-- 'vouchlaw05.ShaPieces': WHATEVER THE INPUT: true; the input reads as it did. -/
def shaPiecesSpec : ChangeSpec := { name := "shaPieces", fn := fun _ => fun
  | [d] => { results := [.lit (.bool true)], args := [d] }
  | _ => none }
def shaPiecesRow : OpenClaim := { program := "ytgjammhgjdmagaadoor", sum := "221be85e2a5ffd66d721f81503f8c5c66ee4da89bae9ad2264d1fd95836c960b", func := "vouch/vouchlaw05.ShaPieces", spec := "shaPieces", named := ["vouch/sha.start"], apart := false, laid := [("vouch/sha.start", laid_vouch_sha_start)] }
def ShaPiecesSaid : Prop := shaPiecesRow.holds Tryd.pinned (OpenSpec.ofChange shaPiecesSpec)

/-- ITS FALSE NEIGHBOUR: 'it returns false'. Refute it at one input. -/
def shaPiecesWrong : ChangeSpec := { name := "shaPieces", fn := fun _ => fun
  | [d] => { results := [.lit (.bool false)], args := [d] }
  | _ => none }
def ShaPiecesWrongFalsely : Prop := shaPiecesRow.holds Tryd.pinned (OpenSpec.ofChange shaPiecesWrong)

/-- 'vouchlaw05.ShaPads': WHATEVER THE INPUT: true; the input reads as it did. -/
def shaPadsSpec : ChangeSpec := { name := "shaPads", fn := fun _ => fun
  | [d] => { results := [.lit (.bool true)], args := [d] }
  | _ => none }
def shaPadsRow : OpenClaim := { program := "ytgjammhgjdmagaadoor", sum := "221be85e2a5ffd66d721f81503f8c5c66ee4da89bae9ad2264d1fd95836c960b", func := "vouch/vouchlaw05.ShaPads", spec := "shaPads", named := ["vouch/sha.start"], apart := false, laid := [("vouch/sha.start", laid_vouch_sha_start)] }
def ShaPadsSaid : Prop := shaPadsRow.holds Tryd.pinned (OpenSpec.ofChange shaPadsSpec)

/-- ITS FALSE NEIGHBOUR: 'it returns false'. Refute it at one input. -/
def shaPadsWrong : ChangeSpec := { name := "shaPads", fn := fun _ => fun
  | [d] => { results := [.lit (.bool false)], args := [d] }
  | _ => none }
def ShaPadsWrongFalsely : Prop := shaPadsRow.holds Tryd.pinned (OpenSpec.ofChange shaPadsWrong)

/-- 'vouchlaw05.ShaCuts': WHATEVER THE INPUT: true; the input reads as it did. -/
def shaCutsSpec : ChangeSpec := { name := "shaCuts", fn := fun _ => fun
  | [d1, d2, d3] => { results := [.lit (.bool true)], args := [d1, d2, d3] }
  | _ => none }
def shaCutsRow : OpenClaim := { program := "ytgjammhgjdmagaadoor", sum := "221be85e2a5ffd66d721f81503f8c5c66ee4da89bae9ad2264d1fd95836c960b", func := "vouch/vouchlaw05.ShaCuts", spec := "shaCuts", named := ["vouch/sha.start"], apart := false, laid := [("vouch/sha.start", laid_vouch_sha_start)] }
def ShaCutsSaid : Prop := shaCutsRow.holds Tryd.pinned (OpenSpec.ofChange shaCutsSpec)

/-- ITS FALSE NEIGHBOUR: 'it returns false'. Refute it at one input. -/
def shaCutsWrong : ChangeSpec := { name := "shaCuts", fn := fun _ => fun
  | [d1, d2, d3] => { results := [.lit (.bool false)], args := [d1, d2, d3] }
  | _ => none }
def ShaCutsWrongFalsely : Prop := shaCutsRow.holds Tryd.pinned (OpenSpec.ofChange shaCutsWrong)

/-- 'vouchlaw05.ShaFills': WHATEVER THE INPUT: true; the input reads as it did. -/
def shaFillsSpec : ChangeSpec := { name := "shaFills", fn := fun _ => fun
  | [d] => { results := [.lit (.bool true)], args := [d] }
  | _ => none }
def shaFillsRow : OpenClaim := { program := "ytgjammhgjdmagaadoor", sum := "221be85e2a5ffd66d721f81503f8c5c66ee4da89bae9ad2264d1fd95836c960b", func := "vouch/vouchlaw05.ShaFills", spec := "shaFills", named := ["vouch/sha.start"], apart := false, laid := [("vouch/sha.start", laid_vouch_sha_start)] }
def ShaFillsSaid : Prop := shaFillsRow.holds Tryd.pinned (OpenSpec.ofChange shaFillsSpec)

/-- ITS FALSE NEIGHBOUR: 'it returns false'. Refute it at one input. -/
def shaFillsWrong : ChangeSpec := { name := "shaFills", fn := fun _ => fun
  | [d] => { results := [.lit (.bool false)], args := [d] }
  | _ => none }
def ShaFillsWrongFalsely : Prop := shaFillsRow.holds Tryd.pinned (OpenSpec.ofChange shaFillsWrong)

/-- 'vouchlaw05.ShaKnown': WHATEVER THE INPUT: true; the input reads as it did. -/
def shaKnownSpec : ChangeSpec := { name := "shaKnown", fn := fun _ => fun
  | [] => { results := [.lit (.bool true)], args := [] }
  | _ => none }
def shaKnownRow : OpenClaim := { program := "ytgjammhgjdmagaadoor", sum := "221be85e2a5ffd66d721f81503f8c5c66ee4da89bae9ad2264d1fd95836c960b", func := "vouch/vouchlaw05.ShaKnown", spec := "shaKnown", named := ["vouch/sha.start"], apart := false, laid := [("vouch/sha.start", laid_vouch_sha_start)] }
def ShaKnownSaid : Prop := shaKnownRow.holds Tryd.pinned (OpenSpec.ofChange shaKnownSpec)

/-- ITS FALSE NEIGHBOUR: 'it returns false'. Refute it at one input. -/
def shaKnownWrong : ChangeSpec := { name := "shaKnown", fn := fun _ => fun
  | [] => { results := [.lit (.bool false)], args := [] }
  | _ => none }
def ShaKnownWrongFalsely : Prop := shaKnownRow.holds Tryd.pinned (OpenSpec.ofChange shaKnownWrong)

/- THE SECOND FORM. 'bulk': how many values and letters a reading holds, each counted each time it is reached (what is shared counts as often as it is met; a slice's spare places count too). A statement '..UptoSaid' is the law's where the arguments, and the package variables that the reading takes, are together of bulk at most 1048576: NARROWER than '..Said'. Prove '..Said' where nothing that the law and all that it calls make is longer than what came in: it says more and counts as full. Else prove '..UptoSaid'. A law counts once. -/
mutual
def uptoBulk {H : Type} : DataW H → Nat
  | .lit (.string bytes) => bytes.length + 1
  | .lit _ => 1
  | .nil => 1
  | .ptr d => uptoBulk d + 1
  | .slice elems spare => uptoBulkAll elems + uptoBulkAll spare + 1
  | .agg parts => uptoBulkAll parts + 1
  | .iface _ d => uptoBulk d + 1
  | .map entries => uptoBulkEntries entries + 1
  | .held _ => 1
def uptoBulkAll {H : Type} : List (DataW H) → Nat
  | [] => 0
  | d :: r => uptoBulk d + uptoBulkAll r
def uptoBulkEntries {H : Type} : List (Lit × DataW H) → Nat
  | [] => 0
  | x :: r => uptoBulkEntry x + uptoBulkEntries r
def uptoBulkEntry {H : Type} : Lit × DataW H → Nat
  | (.string bytes, d) => bytes.length + uptoBulk d + 1
  | (_, d) => uptoBulk d + 1
 end
def uptoSmall : (H : Type) → List (DataW H) → Bool := fun _ ds => decide (uptoBulkAll ds ≤ 1048576)
def OpenSpec.upto (s : _root_.Go.ChangeSpec) : _root_.Go.OpenSpec := { _root_.Go.OpenSpec.ofChange s with cond := some uptoSmall }

/-- 'vouchlaw05.ShaSums', WHERE WHAT IT READS IS OF BULK AT MOST 1048576: true; the input reads as it did. -/
def shaSumsUptoRow : OpenClaim := { program := "ytgjammhgjdmagaadoor", sum := "221be85e2a5ffd66d721f81503f8c5c66ee4da89bae9ad2264d1fd95836c960b", func := "vouch/vouchlaw05.ShaSums", spec := "shaSums", named := ["vouch/sha.start"], apart := false, laid := [("vouch/sha.start", laid_vouch_sha_start)], narrowed := true }
def ShaSumsUptoSaid : Prop := shaSumsUptoRow.holds Tryd.pinned (OpenSpec.upto shaSumsSpec)

/-- 'vouchlaw05.ShaPieces', WHERE WHAT IT READS IS OF BULK AT MOST 1048576: true; the input reads as it did. -/
def shaPiecesUptoRow : OpenClaim := { program := "ytgjammhgjdmagaadoor", sum := "221be85e2a5ffd66d721f81503f8c5c66ee4da89bae9ad2264d1fd95836c960b", func := "vouch/vouchlaw05.ShaPieces", spec := "shaPieces", named := ["vouch/sha.start"], apart := false, laid := [("vouch/sha.start", laid_vouch_sha_start)], narrowed := true }
def ShaPiecesUptoSaid : Prop := shaPiecesUptoRow.holds Tryd.pinned (OpenSpec.upto shaPiecesSpec)

/-- 'vouchlaw05.ShaPads', WHERE WHAT IT READS IS OF BULK AT MOST 1048576: true; the input reads as it did. -/
def shaPadsUptoRow : OpenClaim := { program := "ytgjammhgjdmagaadoor", sum := "221be85e2a5ffd66d721f81503f8c5c66ee4da89bae9ad2264d1fd95836c960b", func := "vouch/vouchlaw05.ShaPads", spec := "shaPads", named := ["vouch/sha.start"], apart := false, laid := [("vouch/sha.start", laid_vouch_sha_start)], narrowed := true }
def ShaPadsUptoSaid : Prop := shaPadsUptoRow.holds Tryd.pinned (OpenSpec.upto shaPadsSpec)

/-- 'vouchlaw05.ShaCuts', WHERE WHAT IT READS IS OF BULK AT MOST 1048576: true; the input reads as it did. -/
def shaCutsUptoRow : OpenClaim := { program := "ytgjammhgjdmagaadoor", sum := "221be85e2a5ffd66d721f81503f8c5c66ee4da89bae9ad2264d1fd95836c960b", func := "vouch/vouchlaw05.ShaCuts", spec := "shaCuts", named := ["vouch/sha.start"], apart := false, laid := [("vouch/sha.start", laid_vouch_sha_start)], narrowed := true }
def ShaCutsUptoSaid : Prop := shaCutsUptoRow.holds Tryd.pinned (OpenSpec.upto shaCutsSpec)

/-- 'vouchlaw05.ShaFills', WHERE WHAT IT READS IS OF BULK AT MOST 1048576: true; the input reads as it did. -/
def shaFillsUptoRow : OpenClaim := { program := "ytgjammhgjdmagaadoor", sum := "221be85e2a5ffd66d721f81503f8c5c66ee4da89bae9ad2264d1fd95836c960b", func := "vouch/vouchlaw05.ShaFills", spec := "shaFills", named := ["vouch/sha.start"], apart := false, laid := [("vouch/sha.start", laid_vouch_sha_start)], narrowed := true }
def ShaFillsUptoSaid : Prop := shaFillsUptoRow.holds Tryd.pinned (OpenSpec.upto shaFillsSpec)

/-- 'vouchlaw05.ShaKnown', WHERE WHAT IT READS IS OF BULK AT MOST 1048576: true; the input reads as it did. -/
def shaKnownUptoRow : OpenClaim := { program := "ytgjammhgjdmagaadoor", sum := "221be85e2a5ffd66d721f81503f8c5c66ee4da89bae9ad2264d1fd95836c960b", func := "vouch/vouchlaw05.ShaKnown", spec := "shaKnown", named := ["vouch/sha.start"], apart := false, laid := [("vouch/sha.start", laid_vouch_sha_start)], narrowed := true }
def ShaKnownUptoSaid : Prop := shaKnownUptoRow.holds Tryd.pinned (OpenSpec.upto shaKnownSpec)

end Rows
end Go.Proofs.YtgjammhgjdmagaaDoor
