/-
  DERIVED. GIVEN WITH THE SEED: THE CARDS: each row of YtclbjmanmkoikaaDoorRows.lean that lists a variable, with what it lists TIED to the program's text (the seventh form; the later family's looks); each row that meets fmt, with fmt's text TOLD by the authors' own Lean function (tested against real Go, not proved from fmt's source: count such statements apart). THE CARD IS WHAT COUNTS. Prove the row's statement (the work); the ties are given (YtclbjmanmkoikaaDoorTie.lean); close each card by the builder's one call (the guide's Derived/Test/ToyasCard.lean, 'card_holds'). Laid BY PROGRAM, IN A SANDBOX (cutbox-door.mjs). By AI agents, Wed Nov 11 2026. No macro, syntax, notation, axiom, sorry.
-/
import Derived.Test.YtclbjmanmkoikaaDoorRows
import GoSem.ClaimSeven
namespace Go.Proofs.YtclbjmanmkoikaaDoor
namespace Rows

/-- THE TIED CARD OF 'vouchlaw08.RsaEquation'. -/
def rsaEquationCard : Claim7 := { stood := { row := rsaEquationRow, standIns := [], harness := (true, "942736da027ad5d617e2bf0ff8b99f29ee2fd3d4581b83cb8d3230b55a5a6964"), looks := false }, kinds := [], alts := [], laidByText := true, laidKinds := [.data, .data, .data, .data], laidTests := true, laidLooks := .later }
def RsaEquationCardSaid : Prop := Claim7.holds Tryd.pinned (.plain (OpenSpec.ofChange rsaEquationSpec)) rsaEquationCard

/-- THE TIED CARD OF 'vouchlaw08.RsaForms'. -/
def rsaFormsCard : Claim7 := { stood := { row := rsaFormsRow, standIns := [], harness := (true, "942736da027ad5d617e2bf0ff8b99f29ee2fd3d4581b83cb8d3230b55a5a6964"), looks := false }, kinds := [], alts := [], laidByText := true, laidKinds := [.data, .data, .data, .data], laidTests := true, laidLooks := .later }
def RsaFormsCardSaid : Prop := Claim7.holds Tryd.pinned (.plain (OpenSpec.ofChange rsaFormsSpec)) rsaFormsCard

/-- THE SECOND FORM's CARD OF 'vouchlaw08.RsaEquation'. -/
def rsaEquationUptoCard : Claim7 := { stood := { row := rsaEquationUptoRow, standIns := [], harness := (true, "942736da027ad5d617e2bf0ff8b99f29ee2fd3d4581b83cb8d3230b55a5a6964"), looks := false }, kinds := [], alts := [], laidByText := true, laidKinds := [.data, .data, .data, .data], laidTests := true, laidLooks := .later }
def RsaEquationUptoCardSaid : Prop := Claim7.holds Tryd.pinned (.plain (OpenSpec.upto rsaEquationSpec)) rsaEquationUptoCard

/-- THE SECOND FORM's CARD OF 'vouchlaw08.RsaForms'. -/
def rsaFormsUptoCard : Claim7 := { stood := { row := rsaFormsUptoRow, standIns := [], harness := (true, "942736da027ad5d617e2bf0ff8b99f29ee2fd3d4581b83cb8d3230b55a5a6964"), looks := false }, kinds := [], alts := [], laidByText := true, laidKinds := [.data, .data, .data, .data], laidTests := true, laidLooks := .later }
def RsaFormsUptoCardSaid : Prop := Claim7.holds Tryd.pinned (.plain (OpenSpec.upto rsaFormsSpec)) rsaFormsUptoCard
end Rows
end Go.Proofs.YtclbjmanmkoikaaDoor
