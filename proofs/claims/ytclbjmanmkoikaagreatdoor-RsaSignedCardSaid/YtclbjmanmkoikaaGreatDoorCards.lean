/-
  DERIVED. GIVEN WITH THE SEED: THE CARDS: each row of YtclbjmanmkoikaaGreatDoorRows.lean that lists a variable, with what it lists TIED to the program's text (the seventh form; the later family's looks); each row that meets fmt, with fmt's text TOLD by the authors' own Lean function (tested against real Go, not proved from fmt's source: count such statements apart). THE CARD IS WHAT COUNTS. Prove the row's statement (the work); the ties are given (YtclbjmanmkoikaaGreatDoorTie.lean); close each card by the builder's one call (the guide's Derived/Test/ToyasCard.lean, 'card_holds'). Laid BY PROGRAM, IN A SANDBOX (cutbox-door.mjs). By AI agents, Wed Nov 11 2026. No macro, syntax, notation, axiom, sorry.
-/
import Derived.Test.YtclbjmanmkoikaaGreatDoorRows
import GoSem.ClaimSeven
namespace Go.Proofs.YtclbjmanmkoikaaGreatDoor
namespace Rows

/-- THE TIED CARD OF 'vouchlaw08.RsaChecks'. -/
def rsaChecksCard : Claim7 := { stood := { row := rsaChecksRow, standIns := [], harness := (true, "cb14c3ff72478bfa0def147e57b2f4baea1d2c49ce10ed8369cad7b20e23692a"), looks := false }, kinds := [], alts := [], laidByText := true, laidKinds := [.data, .data, .data, .data], laidTests := true, laidLooks := .later }
def RsaChecksCardSaid : Prop := Claim7.holds Tryz.pinned (.plain (OpenSpec.ofChange rsaChecksSpec)) rsaChecksCard

/-- THE TIED CARD OF 'vouchlaw08.RsaRaises'. -/
def rsaRaisesCard : Claim7 := { stood := { row := rsaRaisesRow, standIns := [], harness := (true, "cb14c3ff72478bfa0def147e57b2f4baea1d2c49ce10ed8369cad7b20e23692a"), looks := false }, kinds := [], alts := [], laidByText := true, laidKinds := [.data, .data, .data, .data], laidTests := true, laidLooks := .later }
def RsaRaisesCardSaid : Prop := Claim7.holds Tryz.pinned (.plain (OpenSpec.ofChange rsaRaisesSpec)) rsaRaisesCard

/-- THE TIED CARD OF 'vouchlaw08.RsaSigned'. -/
def rsaSignedCard : Claim7 := { stood := { row := rsaSignedRow, standIns := [], harness := (true, "cb14c3ff72478bfa0def147e57b2f4baea1d2c49ce10ed8369cad7b20e23692a"), looks := false }, kinds := [], alts := [], laidByText := true, laidKinds := [.data, .data, .data, .data], laidTests := true, laidLooks := .later }
def RsaSignedCardSaid : Prop := Claim7.holds Tryz.pinned (.plain (OpenSpec.ofChange rsaSignedSpec)) rsaSignedCard

/-- THE TIED CARD OF 'vouchlaw08.RsaKnown'. -/
def rsaKnownCard : Claim7 := { stood := { row := rsaKnownRow, standIns := [], harness := (true, "cb14c3ff72478bfa0def147e57b2f4baea1d2c49ce10ed8369cad7b20e23692a"), looks := false }, kinds := [], alts := [], laidByText := true, laidKinds := [.data, .data, .data, .data], laidTests := true, laidLooks := .later }
def RsaKnownCardSaid : Prop := Claim7.holds Tryz.pinned (.plain (OpenSpec.ofChange rsaKnownSpec)) rsaKnownCard

/-- THE SECOND FORM's CARD OF 'vouchlaw08.RsaChecks'. -/
def rsaChecksUptoCard : Claim7 := { stood := { row := rsaChecksUptoRow, standIns := [], harness := (true, "cb14c3ff72478bfa0def147e57b2f4baea1d2c49ce10ed8369cad7b20e23692a"), looks := false }, kinds := [], alts := [], laidByText := true, laidKinds := [.data, .data, .data, .data], laidTests := true, laidLooks := .later }
def RsaChecksUptoCardSaid : Prop := Claim7.holds Tryz.pinned (.plain (OpenSpec.upto rsaChecksSpec)) rsaChecksUptoCard

/-- THE SECOND FORM's CARD OF 'vouchlaw08.RsaRaises'. -/
def rsaRaisesUptoCard : Claim7 := { stood := { row := rsaRaisesUptoRow, standIns := [], harness := (true, "cb14c3ff72478bfa0def147e57b2f4baea1d2c49ce10ed8369cad7b20e23692a"), looks := false }, kinds := [], alts := [], laidByText := true, laidKinds := [.data, .data, .data, .data], laidTests := true, laidLooks := .later }
def RsaRaisesUptoCardSaid : Prop := Claim7.holds Tryz.pinned (.plain (OpenSpec.upto rsaRaisesSpec)) rsaRaisesUptoCard

/-- THE SECOND FORM's CARD OF 'vouchlaw08.RsaSigned'. -/
def rsaSignedUptoCard : Claim7 := { stood := { row := rsaSignedUptoRow, standIns := [], harness := (true, "cb14c3ff72478bfa0def147e57b2f4baea1d2c49ce10ed8369cad7b20e23692a"), looks := false }, kinds := [], alts := [], laidByText := true, laidKinds := [.data, .data, .data, .data], laidTests := true, laidLooks := .later }
def RsaSignedUptoCardSaid : Prop := Claim7.holds Tryz.pinned (.plain (OpenSpec.upto rsaSignedSpec)) rsaSignedUptoCard

/-- THE SECOND FORM's CARD OF 'vouchlaw08.RsaKnown'. -/
def rsaKnownUptoCard : Claim7 := { stood := { row := rsaKnownUptoRow, standIns := [], harness := (true, "cb14c3ff72478bfa0def147e57b2f4baea1d2c49ce10ed8369cad7b20e23692a"), looks := false }, kinds := [], alts := [], laidByText := true, laidKinds := [.data, .data, .data, .data], laidTests := true, laidLooks := .later }
def RsaKnownUptoCardSaid : Prop := Claim7.holds Tryz.pinned (.plain (OpenSpec.upto rsaKnownSpec)) rsaKnownUptoCard
end Rows
end Go.Proofs.YtclbjmanmkoikaaGreatDoor
