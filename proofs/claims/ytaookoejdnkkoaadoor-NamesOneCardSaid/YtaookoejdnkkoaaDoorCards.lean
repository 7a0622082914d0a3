/-
  DERIVED. GIVEN WITH THE SEED: THE CARDS: each row of YtaookoejdnkkoaaDoorRows.lean that lists a variable, with what it lists TIED to the program's text (the seventh form; the later family's looks); each row that meets fmt, with fmt's text TOLD by the authors' own Lean function (tested against real Go, not proved from fmt's source: count such statements apart). THE CARD IS WHAT COUNTS. Prove the row's statement (the work); the ties are given (YtaookoejdnkkoaaDoorTie.lean); close each card by the builder's one call (the guide's Derived/Test/ToyasCard.lean, 'card_holds'). Laid BY PROGRAM, IN A SANDBOX (cutbox-door.mjs). By AI agents, Wed Nov 11 2026. No macro, syntax, notation, axiom, sorry.
-/
import Derived.Test.YtaookoejdnkkoaaDoorRows
import GoSem.ClaimSeven
namespace Go.Proofs.YtaookoejdnkkoaaDoor
namespace Rows

/-- THE TIED CARD OF 'vouchlaw09.NamesOne'. -/
def namesOneCard : Claim7 := { stood := { row := namesOneRow, standIns := [], harness := (true, "2115ee4a27cbf4588b7080bb2ccfed32fdaec64ad658ca5dff6d1643d97c85f7"), looks := true }, kinds := [], alts := [], laidByText := true, laidKinds := [.data, .data, .data, .pinned], laidTests := true, laidLooks := .later }
def NamesOneCardSaid : Prop := Claim7.holds Tryd.pinned (.plain (OpenSpec.ofChange namesOneSpec)) namesOneCard

/-- THE TIED CARD OF 'vouchlaw09.NamesOnce'. -/
def namesOnceCard : Claim7 := { stood := { row := namesOnceRow, standIns := [], harness := (true, "2115ee4a27cbf4588b7080bb2ccfed32fdaec64ad658ca5dff6d1643d97c85f7"), looks := true }, kinds := [], alts := [], laidByText := true, laidKinds := [.data, .data, .data, .pinned], laidTests := true, laidLooks := .later }
def NamesOnceCardSaid : Prop := Claim7.holds Tryd.pinned (.plain (OpenSpec.ofChange namesOnceSpec)) namesOnceCard

/-- THE TIED CARD OF 'vouchlaw09.NamesSigs'. -/
def namesSigsCard : Claim7 := { stood := { row := namesSigsRow, standIns := [], harness := (true, "2115ee4a27cbf4588b7080bb2ccfed32fdaec64ad658ca5dff6d1643d97c85f7"), looks := true }, kinds := [], alts := [], laidByText := true, laidKinds := [.data, .data, .data, .pinned], laidTests := true, laidLooks := .later }
def NamesSigsCardSaid : Prop := Claim7.holds Tryd.pinned (.plain (OpenSpec.ofChange namesSigsSpec)) namesSigsCard

/-- THE SECOND FORM's CARD OF 'vouchlaw09.NamesOne'. -/
def namesOneUptoCard : Claim7 := { stood := { row := namesOneUptoRow, standIns := [], harness := (true, "2115ee4a27cbf4588b7080bb2ccfed32fdaec64ad658ca5dff6d1643d97c85f7"), looks := true }, kinds := [], alts := [], laidByText := true, laidKinds := [.data, .data, .data, .pinned], laidTests := true, laidLooks := .later }
def NamesOneUptoCardSaid : Prop := Claim7.holds Tryd.pinned (.plain (OpenSpec.upto namesOneSpec)) namesOneUptoCard

/-- THE SECOND FORM's CARD OF 'vouchlaw09.NamesOnce'. -/
def namesOnceUptoCard : Claim7 := { stood := { row := namesOnceUptoRow, standIns := [], harness := (true, "2115ee4a27cbf4588b7080bb2ccfed32fdaec64ad658ca5dff6d1643d97c85f7"), looks := true }, kinds := [], alts := [], laidByText := true, laidKinds := [.data, .data, .data, .pinned], laidTests := true, laidLooks := .later }
def NamesOnceUptoCardSaid : Prop := Claim7.holds Tryd.pinned (.plain (OpenSpec.upto namesOnceSpec)) namesOnceUptoCard

/-- THE SECOND FORM's CARD OF 'vouchlaw09.NamesSigs'. -/
def namesSigsUptoCard : Claim7 := { stood := { row := namesSigsUptoRow, standIns := [], harness := (true, "2115ee4a27cbf4588b7080bb2ccfed32fdaec64ad658ca5dff6d1643d97c85f7"), looks := true }, kinds := [], alts := [], laidByText := true, laidKinds := [.data, .data, .data, .pinned], laidTests := true, laidLooks := .later }
def NamesSigsUptoCardSaid : Prop := Claim7.holds Tryd.pinned (.plain (OpenSpec.upto namesSigsSpec)) namesSigsUptoCard
end Rows
end Go.Proofs.YtaookoejdnkkoaaDoor
