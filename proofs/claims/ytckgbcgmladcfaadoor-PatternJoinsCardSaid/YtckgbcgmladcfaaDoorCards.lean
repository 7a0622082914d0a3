/-
  DERIVED. GIVEN WITH THE SEED: THE CARDS: each row of YtckgbcgmladcfaaDoorRows.lean that lists a variable, with what it lists TIED to the program's text (the seventh form; the later family's looks); each row that meets fmt, with fmt's text TOLD by the authors' own Lean function (tested against real Go, not proved from fmt's source: count such statements apart). THE CARD IS WHAT COUNTS. Prove the row's statement (the work); the ties are given (YtckgbcgmladcfaaDoorTie.lean); close each card by the builder's one call (the guide's Derived/Test/ToyasCard.lean, 'card_holds'). Laid BY PROGRAM, IN A SANDBOX (cutbox-door.mjs). By AI agents, Wed Nov 11 2026. No macro, syntax, notation, axiom, sorry.
-/
import Derived.Test.YtckgbcgmladcfaaDoorRows
import GoSem.ClaimSeven
namespace Go.Proofs.YtckgbcgmladcfaaDoor
namespace Rows

/-- THE TIED CARD OF 'vouchlaw10.PatternBack'. -/
def patternBackCard : Claim7 := { stood := { row := patternBackRow, standIns := [], harness := (true, "84b7d6fa116b71043b51d344c4e288159d5c9b964be37093c0c35b2cadb2cf62"), looks := false }, kinds := [], alts := [], laidByText := true, laidKinds := [.data, .data, .data], laidTests := true, laidLooks := .later }
def PatternBackCardSaid : Prop := Claim7.holds Tryd.pinned (.plain (OpenSpec.ofChange patternBackSpec)) patternBackCard

/-- THE TIED CARD OF 'vouchlaw10.PatternOnce'. -/
def patternOnceCard : Claim7 := { stood := { row := patternOnceRow, standIns := [], harness := (true, "84b7d6fa116b71043b51d344c4e288159d5c9b964be37093c0c35b2cadb2cf62"), looks := false }, kinds := [], alts := [], laidByText := true, laidKinds := [.data, .data, .data], laidTests := true, laidLooks := .later }
def PatternOnceCardSaid : Prop := Claim7.holds Tryd.pinned (.plain (OpenSpec.ofChange patternOnceSpec)) patternOnceCard

/-- THE TIED CARD OF 'vouchlaw10.PatternJoins'. -/
def patternJoinsCard : Claim7 := { stood := { row := patternJoinsRow, standIns := [], harness := (true, "84b7d6fa116b71043b51d344c4e288159d5c9b964be37093c0c35b2cadb2cf62"), looks := false }, kinds := [], alts := [], laidByText := true, laidKinds := [.data, .data, .data], laidTests := true, laidLooks := .later }
def PatternJoinsCardSaid : Prop := Claim7.holds Tryd.pinned (.plain (OpenSpec.ofChange patternJoinsSpec)) patternJoinsCard

/-- THE TIED CARD OF 'vouchlaw10.PatternSets'. -/
def patternSetsCard : Claim7 := { stood := { row := patternSetsRow, standIns := [], harness := (true, "84b7d6fa116b71043b51d344c4e288159d5c9b964be37093c0c35b2cadb2cf62"), looks := false }, kinds := [], alts := [], laidByText := true, laidKinds := [.data, .data, .data], laidTests := true, laidLooks := .later }
def PatternSetsCardSaid : Prop := Claim7.holds Tryd.pinned (.plain (OpenSpec.ofChange patternSetsSpec)) patternSetsCard

/-- THE SECOND FORM's CARD OF 'vouchlaw10.PatternBack'. -/
def patternBackUptoCard : Claim7 := { stood := { row := patternBackUptoRow, standIns := [], harness := (true, "84b7d6fa116b71043b51d344c4e288159d5c9b964be37093c0c35b2cadb2cf62"), looks := false }, kinds := [], alts := [], laidByText := true, laidKinds := [.data, .data, .data], laidTests := true, laidLooks := .later }
def PatternBackUptoCardSaid : Prop := Claim7.holds Tryd.pinned (.plain (OpenSpec.upto patternBackSpec)) patternBackUptoCard

/-- THE SECOND FORM's CARD OF 'vouchlaw10.PatternOnce'. -/
def patternOnceUptoCard : Claim7 := { stood := { row := patternOnceUptoRow, standIns := [], harness := (true, "84b7d6fa116b71043b51d344c4e288159d5c9b964be37093c0c35b2cadb2cf62"), looks := false }, kinds := [], alts := [], laidByText := true, laidKinds := [.data, .data, .data], laidTests := true, laidLooks := .later }
def PatternOnceUptoCardSaid : Prop := Claim7.holds Tryd.pinned (.plain (OpenSpec.upto patternOnceSpec)) patternOnceUptoCard

/-- THE SECOND FORM's CARD OF 'vouchlaw10.PatternJoins'. -/
def patternJoinsUptoCard : Claim7 := { stood := { row := patternJoinsUptoRow, standIns := [], harness := (true, "84b7d6fa116b71043b51d344c4e288159d5c9b964be37093c0c35b2cadb2cf62"), looks := false }, kinds := [], alts := [], laidByText := true, laidKinds := [.data, .data, .data], laidTests := true, laidLooks := .later }
def PatternJoinsUptoCardSaid : Prop := Claim7.holds Tryd.pinned (.plain (OpenSpec.upto patternJoinsSpec)) patternJoinsUptoCard

/-- THE SECOND FORM's CARD OF 'vouchlaw10.PatternSets'. -/
def patternSetsUptoCard : Claim7 := { stood := { row := patternSetsUptoRow, standIns := [], harness := (true, "84b7d6fa116b71043b51d344c4e288159d5c9b964be37093c0c35b2cadb2cf62"), looks := false }, kinds := [], alts := [], laidByText := true, laidKinds := [.data, .data, .data], laidTests := true, laidLooks := .later }
def PatternSetsUptoCardSaid : Prop := Claim7.holds Tryd.pinned (.plain (OpenSpec.upto patternSetsSpec)) patternSetsUptoCard
end Rows
end Go.Proofs.YtckgbcgmladcfaaDoor
