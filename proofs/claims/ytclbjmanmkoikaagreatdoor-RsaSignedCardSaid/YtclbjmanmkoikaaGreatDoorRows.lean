/-
  NARROWER THAN 'FOR EVERY INPUT', by the rows' own cells (each row's printed sentence says how): RsaChecks: laid · RsaRaises: laid · RsaSigned: laid · RsaKnown: laid.
  DERIVED. THE GIVEN ROWS OF THIS SEAT. 4 by the template 'for every input the law returns true; each argument reads behind the call as it read before'; 0 by the template 'total and deterministic' (their statements: YtclbjmanmkoikaaGreatDoorTotals.lean).
  GIVEN WITH THE SEED: the statements are not yours to turn. If you find one false, say at which input.
  Laid BY PROGRAM, IN A SANDBOX (cutbox-rows.mjs): the forced cells as the released guide's own fill.sh prints them over the translation 0f7855c7f6b6020f… (all of the seat's roots in one cut). By AI agents, Wed Nov 11 2026. No macro, syntax, notation, axiom, sorry.
-/
import Derived.Test.YtclbjmanmkoikaaGreatDoorChecked
import GoSem.Claim
import GoSem.ClaimJoined
import GoSem.ClaimMapViews
import Derived.JoinedTies
import Derived.KernelRfl
namespace Go.Proofs.YtclbjmanmkoikaaGreatDoor
/- THE CELL 'sum', in the pinned program and in every row, IS THE sha256 OF THE DUMP (.gsa) THAT YtclbjmanmkoikaaGreatDoorProg.lean LOADS. Nothing in Lean hashes anything: it is a label: what it is worth is what the hold of that sum in a sandbox is worth. -/
noncomputable def Tryz.pinned : Pinned := { name := "ytclbjmanmkoikaagreatdoor", sum := "0f7855c7f6b6020f99bad8618b36fcefa7d7f6ac2d0ddb6aacb4d1d53df5052c", checked := Tryz.checked }
namespace Rows
def none {H : Type} : Left H := { results := [], args := [] }

/- WHAT THE LISTED PACKAGE-LEVEL VARIABLES READ AS WHEN THE CALL BEGINS. Each datum BY PROGRAM (the guide's laid-datum.mjs) off the statement by which the dump's own 'gosem.cut.vars' lays the variable. In a bare row this is a premise. The card (YtclbjmanmkoikaaGreatDoorCards.lean) ties it to the program's text. -/
def laid_vouch_sha_start {H : Type} : DataW H := .agg [.lit (.int .u32 1732584193), .lit (.int .u32 4023233417), .lit (.int .u32 2562383102), .lit (.int .u32 271733878), .lit (.int .u32 3285377520)]
def laid_math_sin {H : Type} : DataW H := .agg [.lit (.float .f64 4460209587652500685), .lit (.float .f64 13716528389658582877), .lit (.float .f64 4523617212962785441), .lit (.float .f64 13774824197404483331), .lit (.float .f64 4575957461383575504), .lit (.float .f64 13818544856648471880)]
def laid_math_cos {H : Type} : DataW H := .agg [.lit (.float .f64 13666448263388469915), .lit (.float .f64 4477121864728985349), .lit (.float .f64 13732177093698800582), .lit (.float .f64 4537941361668146421), .lit (.float .f64 13787419979223748497), .lit (.float .f64 4586165620538955083)]
def laid_math_mPi4 {H : Type} : DataW H := .agg [.lit (.int .u64 1), .lit (.int .u64 5040379952546458195), .lit (.int .u64 17892431488136887169), .lit (.int .u64 13169980181085364355), .lit (.int .u64 18204331823439776451), .lit (.int .u64 7946843935494350272), .lit (.int .u64 905889640498799673), .lit (.int .u64 18175356263134875261), .lit (.int .u64 15061281708168349961), .lit (.int .u64 15220161563773041794), .lit (.int .u64 8296664548579374057), .lit (.int .u64 4109744767560208502), .lit (.int .u64 4607516669194743839), .lit (.int .u64 16023283104648321598), .lit (.int .u64 15739233654134936430), .lit (.int .u64 11424645774684705882), .lit (.int .u64 16883842788696515318), .lit (.int .u64 8795094592981902804), .lit (.int .u64 15561835991111744016), .lit (.int .u64 12395701187267450711)]

/-- 'vouchlaw08.RsaChecks': WHATEVER THE INPUT: true; the input reads as it did. -/
def rsaChecksSpec : ChangeSpec := { name := "rsaChecks", fn := fun _ => fun
  | [d1, d2, d3] => { results := [.lit (.bool true)], args := [d1, d2, d3] }
  | _ => none }
def rsaChecksRow : OpenClaim := { program := "ytclbjmanmkoikaagreatdoor", sum := "0f7855c7f6b6020f99bad8618b36fcefa7d7f6ac2d0ddb6aacb4d1d53df5052c", func := "vouch/vouchlaw08.RsaChecks", spec := "rsaChecks", inPlace := ["internal/abi.NoEscape", "internal/bytealg.MakeNoZero", "math/bits.Add64", "math/bits.Sub64", "math.Float64bits", "math.Float64frombits"], named := ["math/bits.divideError", "math/bits.overflowError", "math._cos", "math._sin", "math.mPi4", "vouch/sha.start"], apart := false, laid := [("vouch/sha.start", laid_vouch_sha_start), ("math._sin", laid_math_sin), ("math._cos", laid_math_cos), ("math.mPi4", laid_math_mPi4)] }
def RsaChecksSaid : Prop := rsaChecksRow.holds Tryz.pinned (OpenSpec.ofChange rsaChecksSpec)

/-- ITS FALSE NEIGHBOUR: 'it returns false'. Refute it at one input. -/
def rsaChecksWrong : ChangeSpec := { name := "rsaChecks", fn := fun _ => fun
  | [d1, d2, d3] => { results := [.lit (.bool false)], args := [d1, d2, d3] }
  | _ => none }
def RsaChecksWrongFalsely : Prop := rsaChecksRow.holds Tryz.pinned (OpenSpec.ofChange rsaChecksWrong)

/-- 'vouchlaw08.RsaRaises': WHATEVER THE INPUT: true; the input reads as it did. -/
def rsaRaisesSpec : ChangeSpec := { name := "rsaRaises", fn := fun _ => fun
  | [d1, d2, d3] => { results := [.lit (.bool true)], args := [d1, d2, d3] }
  | _ => none }
def rsaRaisesRow : OpenClaim := { program := "ytclbjmanmkoikaagreatdoor", sum := "0f7855c7f6b6020f99bad8618b36fcefa7d7f6ac2d0ddb6aacb4d1d53df5052c", func := "vouch/vouchlaw08.RsaRaises", spec := "rsaRaises", inPlace := ["math/bits.Add64", "math/bits.Sub64", "math.Float64bits", "math.Float64frombits", "internal/abi.NoEscape", "internal/bytealg.MakeNoZero"], named := ["math/bits.divideError", "math/bits.overflowError", "math._cos", "math._sin", "math.mPi4", "vouch/sha.start"], apart := false, laid := [("vouch/sha.start", laid_vouch_sha_start), ("math._sin", laid_math_sin), ("math._cos", laid_math_cos), ("math.mPi4", laid_math_mPi4)] }
def RsaRaisesSaid : Prop := rsaRaisesRow.holds Tryz.pinned (OpenSpec.ofChange rsaRaisesSpec)

/-- ITS FALSE NEIGHBOUR: 'it returns false'. Refute it at one input. -/
def rsaRaisesWrong : ChangeSpec := { name := "rsaRaises", fn := fun _ => fun
  | [d1, d2, d3] => { results := [.lit (.bool false)], args := [d1, d2, d3] }
  | _ => none }
def RsaRaisesWrongFalsely : Prop := rsaRaisesRow.holds Tryz.pinned (OpenSpec.ofChange rsaRaisesWrong)

/-- 'vouchlaw08.RsaSigned': WHATEVER THE INPUT: true; the input reads as it did. -/
def rsaSignedSpec : ChangeSpec := { name := "rsaSigned", fn := fun _ => fun
  | [d1, d2, d3, d4] => { results := [.lit (.bool true)], args := [d1, d2, d3, d4] }
  | _ => none }
def rsaSignedRow : OpenClaim := { program := "ytclbjmanmkoikaagreatdoor", sum := "0f7855c7f6b6020f99bad8618b36fcefa7d7f6ac2d0ddb6aacb4d1d53df5052c", func := "vouch/vouchlaw08.RsaSigned", spec := "rsaSigned", inPlace := ["math/bits.Add64", "math/bits.Sub64", "math.Float64bits", "math.Float64frombits", "internal/abi.NoEscape", "internal/bytealg.MakeNoZero"], named := ["math/bits.divideError", "math/bits.overflowError", "math._cos", "math._sin", "math.mPi4", "vouch/sha.start"], apart := false, laid := [("vouch/sha.start", laid_vouch_sha_start), ("math._sin", laid_math_sin), ("math._cos", laid_math_cos), ("math.mPi4", laid_math_mPi4)] }
def RsaSignedSaid : Prop := rsaSignedRow.holds Tryz.pinned (OpenSpec.ofChange rsaSignedSpec)

/-- ITS FALSE NEIGHBOUR: 'it returns false'. Refute it at one input. -/
def rsaSignedWrong : ChangeSpec := { name := "rsaSigned", fn := fun _ => fun
  | [d1, d2, d3, d4] => { results := [.lit (.bool false)], args := [d1, d2, d3, d4] }
  | _ => none }
def RsaSignedWrongFalsely : Prop := rsaSignedRow.holds Tryz.pinned (OpenSpec.ofChange rsaSignedWrong)

/-- 'vouchlaw08.RsaKnown': WHATEVER THE INPUT: true; the input reads as it did. -/
def rsaKnownSpec : ChangeSpec := { name := "rsaKnown", fn := fun _ => fun
  | [] => { results := [.lit (.bool true)], args := [] }
  | _ => none }
def rsaKnownRow : OpenClaim := { program := "ytclbjmanmkoikaagreatdoor", sum := "0f7855c7f6b6020f99bad8618b36fcefa7d7f6ac2d0ddb6aacb4d1d53df5052c", func := "vouch/vouchlaw08.RsaKnown", spec := "rsaKnown", inPlace := ["internal/abi.NoEscape", "internal/bytealg.MakeNoZero", "math/bits.Add64", "math/bits.Sub64", "math.Float64bits", "math.Float64frombits"], named := ["math/bits.divideError", "math/bits.overflowError", "math._cos", "math._sin", "math.mPi4", "vouch/sha.start"], apart := false, laid := [("vouch/sha.start", laid_vouch_sha_start), ("math._sin", laid_math_sin), ("math._cos", laid_math_cos), ("math.mPi4", laid_math_mPi4)] }
def RsaKnownSaid : Prop := rsaKnownRow.holds Tryz.pinned (OpenSpec.ofChange rsaKnownSpec)

/-- ITS FALSE NEIGHBOUR: 'it returns false'. Refute it at one input. -/
def rsaKnownWrong : ChangeSpec := { name := "rsaKnown", fn := fun _ => fun
  | [] => { results := [.lit (.bool false)], args := [] }
  | _ => none }
def RsaKnownWrongFalsely : Prop := rsaKnownRow.holds Tryz.pinned (OpenSpec.ofChange rsaKnownWrong)

/- THE SECOND FORM. 'bulk': how many values and letters a reading holds, each counted each time it is reached (what is shared counts as often as it is met; a slice's spare places count too). A statement '..UptoSaid' is the law's where the arguments, and the package variables that the reading takes, are together of bulk at most 1048576: NARROWER than '..Said'. Prove '..Said' where nothing that the law and all that it calls make is longer than what came in: it says more and counts as full. Else prove '..UptoSaid'. A law counts once. -/
mutual
def uptoBulk {H : Type} : DataW H → Nat
  | .lit (.string bytes) => bytes.length + 1
  | .lit _ => 1
  | .nil => 1
  | .ptr d => uptoBulk d + 1
  | .slice elems spare => uptoBulkAll elems + uptoBulkAll spare + 1
  | .agg parts => uptoBulkAll parts + 1
  | .iface _ d => uptoBulk d + 1
  | .map entries => uptoBulkEntries entries + 1
  | .held _ => 1
def uptoBulkAll {H : Type} : List (DataW H) → Nat
  | [] => 0
  | d :: r => uptoBulk d + uptoBulkAll r
def uptoBulkEntries {H : Type} : List (Lit × DataW H) → Nat
  | [] => 0
  | x :: r => uptoBulkEntry x + uptoBulkEntries r
def uptoBulkEntry {H : Type} : Lit × DataW H → Nat
  | (.string bytes, d) => bytes.length + uptoBulk d + 1
  | (_, d) => uptoBulk d + 1
 end
def uptoSmall : (H : Type) → List (DataW H) → Bool := fun _ ds => decide (uptoBulkAll ds ≤ 1048576)
def OpenSpec.upto (s : _root_.Go.ChangeSpec) : _root_.Go.OpenSpec := { _root_.Go.OpenSpec.ofChange s with cond := some uptoSmall }

/-- 'vouchlaw08.RsaChecks', WHERE WHAT IT READS IS OF BULK AT MOST 1048576: true; the input reads as it did. -/
def rsaChecksUptoRow : OpenClaim := { program := "ytclbjmanmkoikaagreatdoor", sum := "0f7855c7f6b6020f99bad8618b36fcefa7d7f6ac2d0ddb6aacb4d1d53df5052c", func := "vouch/vouchlaw08.RsaChecks", spec := "rsaChecks", inPlace := ["internal/abi.NoEscape", "internal/bytealg.MakeNoZero", "math/bits.Add64", "math/bits.Sub64", "math.Float64bits", "math.Float64frombits"], named := ["math/bits.divideError", "math/bits.overflowError", "math._cos", "math._sin", "math.mPi4", "vouch/sha.start"], apart := false, laid := [("vouch/sha.start", laid_vouch_sha_start), ("math._sin", laid_math_sin), ("math._cos", laid_math_cos), ("math.mPi4", laid_math_mPi4)], narrowed := true }
def RsaChecksUptoSaid : Prop := rsaChecksUptoRow.holds Tryz.pinned (OpenSpec.upto rsaChecksSpec)

/-- 'vouchlaw08.RsaRaises', WHERE WHAT IT READS IS OF BULK AT MOST 1048576: true; the input reads as it did. -/
def rsaRaisesUptoRow : OpenClaim := { program := "ytclbjmanmkoikaagreatdoor", sum := "0f7855c7f6b6020f99bad8618b36fcefa7d7f6ac2d0ddb6aacb4d1d53df5052c", func := "vouch/vouchlaw08.RsaRaises", spec := "rsaRaises", inPlace := ["math/bits.Add64", "math/bits.Sub64", "math.Float64bits", "math.Float64frombits", "internal/abi.NoEscape", "internal/bytealg.MakeNoZero"], named := ["math/bits.divideError", "math/bits.overflowError", "math._cos", "math._sin", "math.mPi4", "vouch/sha.start"], apart := false, laid := [("vouch/sha.start", laid_vouch_sha_start), ("math._sin", laid_math_sin), ("math._cos", laid_math_cos), ("math.mPi4", laid_math_mPi4)], narrowed := true }
def RsaRaisesUptoSaid : Prop := rsaRaisesUptoRow.holds Tryz.pinned (OpenSpec.upto rsaRaisesSpec)

/-- 'vouchlaw08.RsaSigned', WHERE WHAT IT READS IS OF BULK AT MOST 1048576: true; the input reads as it did. -/
def rsaSignedUptoRow : OpenClaim := { program := "ytclbjmanmkoikaagreatdoor", sum := "0f7855c7f6b6020f99bad8618b36fcefa7d7f6ac2d0ddb6aacb4d1d53df5052c", func := "vouch/vouchlaw08.RsaSigned", spec := "rsaSigned", inPlace := ["math/bits.Add64", "math/bits.Sub64", "math.Float64bits", "math.Float64frombits", "internal/abi.NoEscape", "internal/bytealg.MakeNoZero"], named := ["math/bits.divideError", "math/bits.overflowError", "math._cos", "math._sin", "math.mPi4", "vouch/sha.start"], apart := false, laid := [("vouch/sha.start", laid_vouch_sha_start), ("math._sin", laid_math_sin), ("math._cos", laid_math_cos), ("math.mPi4", laid_math_mPi4)], narrowed := true }
def RsaSignedUptoSaid : Prop := rsaSignedUptoRow.holds Tryz.pinned (OpenSpec.upto rsaSignedSpec)

/-- 'vouchlaw08.RsaKnown', WHERE WHAT IT READS IS OF BULK AT MOST 1048576: true; the input reads as it did. -/
def rsaKnownUptoRow : OpenClaim := { program := "ytclbjmanmkoikaagreatdoor", sum := "0f7855c7f6b6020f99bad8618b36fcefa7d7f6ac2d0ddb6aacb4d1d53df5052c", func := "vouch/vouchlaw08.RsaKnown", spec := "rsaKnown", inPlace := ["internal/abi.NoEscape", "internal/bytealg.MakeNoZero", "math/bits.Add64", "math/bits.Sub64", "math.Float64bits", "math.Float64frombits"], named := ["math/bits.divideError", "math/bits.overflowError", "math._cos", "math._sin", "math.mPi4", "vouch/sha.start"], apart := false, laid := [("vouch/sha.start", laid_vouch_sha_start), ("math._sin", laid_math_sin), ("math._cos", laid_math_cos), ("math.mPi4", laid_math_mPi4)], narrowed := true }
def RsaKnownUptoSaid : Prop := rsaKnownUptoRow.holds Tryz.pinned (OpenSpec.upto rsaKnownSpec)

end Rows
end Go.Proofs.YtclbjmanmkoikaaGreatDoor
