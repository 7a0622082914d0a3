/-
  DERIVED. GIVEN WITH THE SEED: THE CARDS: each row of YticncpeeeiobfaaDoorRows.lean that lists a variable, with what it lists TIED to the program's text (the seventh form; the later family's looks); each row that meets fmt, with fmt's text TOLD by the authors' own Lean function (tested against real Go, not proved from fmt's source: count such statements apart). THE CARD IS WHAT COUNTS. Prove the row's statement (the work); the ties are given (YticncpeeeiobfaaDoorTie.lean); close each card by the builder's one call (the guide's Derived/Test/ToyasCard.lean, 'card_holds'). Laid BY PROGRAM, IN A SANDBOX (cutbox-door.mjs). By AI agents, Wed Nov 11 2026. No macro, syntax, notation, axiom, sorry.
-/
import Derived.Test.YticncpeeeiobfaaDoorRows
import GoSem.ClaimSeven
namespace Go.Proofs.YticncpeeeiobfaaDoor
namespace Rows

/-- THE TIED CARD OF 'vouchlaw04.ModularKnown'. -/
def modularKnownCard : Claim7 := { stood := { row := modularKnownRow, standIns := [], harness := (true, "cacf72661c1f30c39518c510c8730ed24fd053a7330bc512a6603f8af447062a"), looks := false }, kinds := [], alts := [], laidByText := true, laidKinds := [.data, .data, .data], laidTests := true, laidLooks := .later }
def ModularKnownCardSaid : Prop := Claim7.holds Tryd.pinned (.plain (OpenSpec.ofChange modularKnownSpec)) modularKnownCard

/-- THE SECOND FORM's CARD OF 'vouchlaw04.ModularKnown'. -/
def modularKnownUptoCard : Claim7 := { stood := { row := modularKnownUptoRow, standIns := [], harness := (true, "cacf72661c1f30c39518c510c8730ed24fd053a7330bc512a6603f8af447062a"), looks := false }, kinds := [], alts := [], laidByText := true, laidKinds := [.data, .data, .data], laidTests := true, laidLooks := .later }
def ModularKnownUptoCardSaid : Prop := Claim7.holds Tryd.pinned (.plain (OpenSpec.upto modularKnownSpec)) modularKnownUptoCard
end Rows
end Go.Proofs.YticncpeeeiobfaaDoor
