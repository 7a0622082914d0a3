/-
  DERIVED. GIVEN WITH THE SEED: THE CARDS: each row of YtaookoejdnkkoaaGreatDoorRows.lean that lists a variable, with what it lists TIED to the program's text (the seventh form; the later family's looks); each row that meets fmt, with fmt's text TOLD by the authors' own Lean function (tested against real Go, not proved from fmt's source: count such statements apart). THE CARD IS WHAT COUNTS. Prove the row's statement (the work); the ties are given (YtaookoejdnkkoaaGreatDoorTie.lean); close each card by the builder's one call (the guide's Derived/Test/ToyasCard.lean, 'card_holds'). Laid BY PROGRAM, IN A SANDBOX (cutbox-door.mjs). By AI agents, Wed Nov 11 2026. No macro, syntax, notation, axiom, sorry.
-/
import Derived.Test.YtaookoejdnkkoaaGreatDoorRows
import GoSem.ClaimSeven
namespace Go.Proofs.YtaookoejdnkkoaaGreatDoor
namespace Rows

/-- THE TIED CARD OF 'vouchlaw08.RsaKnown'. -/
def rsaKnownCard : Claim7 := { stood := { row := rsaKnownRow, standIns := [], harness := (true, "b58396dee373ecd5fc8d0a61168918030cf3be100424aa5e033437cc8e62cded"), looks := true }, kinds := [], alts := [], laidByText := true, laidKinds := [.data, .data, .data, .data], laidTests := true, laidLooks := .later }
def RsaKnownCardSaid : Prop := Claim7.holds Tryz.pinned (.plain (OpenSpec.ofChange rsaKnownSpec)) rsaKnownCard

/-- THE TIED CARD OF 'vouchlaw09.NamesTell'. -/
def namesTellCard : Claim7 := { stood := { row := namesTellRow, standIns := [], harness := (true, "b58396dee373ecd5fc8d0a61168918030cf3be100424aa5e033437cc8e62cded"), looks := true }, kinds := [], alts := [], laidByText := true, laidKinds := [.data, .data, .data, .pinned], laidTests := true, laidLooks := .later }
def NamesTellCardSaid : Prop := Claim7.holds Tryz.pinned (.plain (OpenSpec.ofChange namesTellSpec)) namesTellCard

/-- THE TIED CARD OF 'vouchlaw09.NamesSigned'. -/
def namesSignedCard : Claim7 := { stood := { row := namesSignedRow, standIns := [], harness := (true, "b58396dee373ecd5fc8d0a61168918030cf3be100424aa5e033437cc8e62cded"), looks := true }, kinds := [], alts := [], laidByText := true, laidKinds := [.data, .data, .data, .pinned], laidTests := true, laidLooks := .later }
def NamesSignedCardSaid : Prop := Claim7.holds Tryz.pinned (.plain (OpenSpec.ofChange namesSignedSpec)) namesSignedCard

/-- THE TIED CARD OF 'vouchlaw09.NamesKnown'. -/
def namesKnownCard : Claim7 := { stood := { row := namesKnownRow, standIns := [], harness := (true, "b58396dee373ecd5fc8d0a61168918030cf3be100424aa5e033437cc8e62cded"), looks := true }, kinds := [], alts := [], laidByText := true, laidKinds := [.data, .data, .data, .pinned], laidTests := true, laidLooks := .later }
def NamesKnownCardSaid : Prop := Claim7.holds Tryz.pinned (.plain (OpenSpec.ofChange namesKnownSpec)) namesKnownCard

/-- THE SECOND FORM's CARD OF 'vouchlaw08.RsaKnown'. -/
def rsaKnownUptoCard : Claim7 := { stood := { row := rsaKnownUptoRow, standIns := [], harness := (true, "b58396dee373ecd5fc8d0a61168918030cf3be100424aa5e033437cc8e62cded"), looks := true }, kinds := [], alts := [], laidByText := true, laidKinds := [.data, .data, .data, .data], laidTests := true, laidLooks := .later }
def RsaKnownUptoCardSaid : Prop := Claim7.holds Tryz.pinned (.plain (OpenSpec.upto rsaKnownSpec)) rsaKnownUptoCard

/-- THE SECOND FORM's CARD OF 'vouchlaw09.NamesTell'. -/
def namesTellUptoCard : Claim7 := { stood := { row := namesTellUptoRow, standIns := [], harness := (true, "b58396dee373ecd5fc8d0a61168918030cf3be100424aa5e033437cc8e62cded"), looks := true }, kinds := [], alts := [], laidByText := true, laidKinds := [.data, .data, .data, .pinned], laidTests := true, laidLooks := .later }
def NamesTellUptoCardSaid : Prop := Claim7.holds Tryz.pinned (.plain (OpenSpec.upto namesTellSpec)) namesTellUptoCard

/-- THE SECOND FORM's CARD OF 'vouchlaw09.NamesSigned'. -/
def namesSignedUptoCard : Claim7 := { stood := { row := namesSignedUptoRow, standIns := [], harness := (true, "b58396dee373ecd5fc8d0a61168918030cf3be100424aa5e033437cc8e62cded"), looks := true }, kinds := [], alts := [], laidByText := true, laidKinds := [.data, .data, .data, .pinned], laidTests := true, laidLooks := .later }
def NamesSignedUptoCardSaid : Prop := Claim7.holds Tryz.pinned (.plain (OpenSpec.upto namesSignedSpec)) namesSignedUptoCard

/-- THE SECOND FORM's CARD OF 'vouchlaw09.NamesKnown'. -/
def namesKnownUptoCard : Claim7 := { stood := { row := namesKnownUptoRow, standIns := [], harness := (true, "b58396dee373ecd5fc8d0a61168918030cf3be100424aa5e033437cc8e62cded"), looks := true }, kinds := [], alts := [], laidByText := true, laidKinds := [.data, .data, .data, .pinned], laidTests := true, laidLooks := .later }
def NamesKnownUptoCardSaid : Prop := Claim7.holds Tryz.pinned (.plain (OpenSpec.upto namesKnownSpec)) namesKnownUptoCard
end Rows
end Go.Proofs.YtaookoejdnkkoaaGreatDoor
