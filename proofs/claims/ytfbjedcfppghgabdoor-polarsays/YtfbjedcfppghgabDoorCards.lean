/-
  DERIVED. GIVEN WITH THE SEED: THE CARDS: each row of YtfbjedcfppghgabDoorRows.lean that lists a variable, with what it lists TIED to the program's text (the seventh form; the later family's looks); each row that meets fmt, with fmt's text TOLD by the authors' own Lean function (tested against real Go, not proved from fmt's source: count such statements apart). THE CARD IS WHAT COUNTS. Prove the row's statement (the work); the ties are given (YtfbjedcfppghgabDoorTie.lean); close each card by the builder's one call (the guide's Derived/Test/ToyasCard.lean, 'card_holds'). Laid BY PROGRAM, IN A SANDBOX (cutbox-door.mjs). By AI agents, Wed Nov 11 2026. No macro, syntax, notation, axiom, sorry.
-/
import Derived.Test.YtfbjedcfppghgabDoorRows
import GoSem.ClaimSeven
namespace Go.Proofs.YtfbjedcfppghgabDoor
namespace Rows

/-- THE TIED CARD OF 'roamlaw.ConvEncodes'. -/
def convEncodesCard : Claim7 := { stood := { row := convEncodesRow, standIns := [], harness := (true, "3a8c5a8f9e926c28f8790699186b9dec452894f633948dd40e3f92257955fe6f"), looks := false }, kinds := [], alts := [], laidByText := true, laidKinds := [.data], laidTests := true, laidLooks := .later }
def ConvEncodesCardSaid : Prop := Claim7.holds Tryd.pinned (.plain (OpenSpec.ofChange convEncodesSpec)) convEncodesCard

/-- THE TIED CARD OF 'roamlaw.ConvDecodes'. -/
def convDecodesCard : Claim7 := { stood := { row := convDecodesRow, standIns := [], harness := (true, "3a8c5a8f9e926c28f8790699186b9dec452894f633948dd40e3f92257955fe6f"), looks := false }, kinds := [], alts := [], laidByText := true, laidKinds := [.data], laidTests := true, laidLooks := .later }
def ConvDecodesCardSaid : Prop := Claim7.holds Tryd.pinned (.plain (OpenSpec.ofChange convDecodesSpec)) convDecodesCard

/-- THE TIED CARD OF 'roamkeep.ConvBest'. -/
def convBestCard : Claim7 := { stood := { row := convBestRow, standIns := [], harness := (true, "3a8c5a8f9e926c28f8790699186b9dec452894f633948dd40e3f92257955fe6f"), looks := false }, kinds := [], alts := [], laidByText := true, laidKinds := [.data], laidTests := true, laidLooks := .later }
def ConvBestCardSaid : Prop := Claim7.holds Tryd.pinned (.plain (OpenSpec.ofChange convBestSpec)) convBestCard

/-- THE TIED CARD OF 'roamkeep.ConvBack'. -/
def convBackCard : Claim7 := { stood := { row := convBackRow, standIns := [], harness := (true, "3a8c5a8f9e926c28f8790699186b9dec452894f633948dd40e3f92257955fe6f"), looks := false }, kinds := [], alts := [], laidByText := true, laidKinds := [.data], laidTests := true, laidLooks := .later }
def ConvBackCardSaid : Prop := Claim7.holds Tryd.pinned (.plain (OpenSpec.ofChange convBackSpec)) convBackCard

/-- THE TIED CARD OF 'roamlaw.PolarSays'. -/
def polarSaysCard : Claim7 := { stood := { row := polarSaysRow, standIns := [], harness := (true, "3a8c5a8f9e926c28f8790699186b9dec452894f633948dd40e3f92257955fe6f"), looks := false }, kinds := [], alts := [], laidByText := true, laidKinds := [.data], laidTests := true, laidLooks := .later }
def PolarSaysCardSaid : Prop := Claim7.holds Tryd.pinned (.plain (OpenSpec.ofChange polarSaysSpec)) polarSaysCard

/-- THE SECOND FORM's CARD OF 'roamlaw.ConvEncodes'. -/
def convEncodesUptoCard : Claim7 := { stood := { row := convEncodesUptoRow, standIns := [], harness := (true, "3a8c5a8f9e926c28f8790699186b9dec452894f633948dd40e3f92257955fe6f"), looks := false }, kinds := [], alts := [], laidByText := true, laidKinds := [.data], laidTests := true, laidLooks := .later }
def ConvEncodesUptoCardSaid : Prop := Claim7.holds Tryd.pinned (.plain (OpenSpec.upto convEncodesSpec)) convEncodesUptoCard

/-- THE SECOND FORM's CARD OF 'roamlaw.ConvDecodes'. -/
def convDecodesUptoCard : Claim7 := { stood := { row := convDecodesUptoRow, standIns := [], harness := (true, "3a8c5a8f9e926c28f8790699186b9dec452894f633948dd40e3f92257955fe6f"), looks := false }, kinds := [], alts := [], laidByText := true, laidKinds := [.data], laidTests := true, laidLooks := .later }
def ConvDecodesUptoCardSaid : Prop := Claim7.holds Tryd.pinned (.plain (OpenSpec.upto convDecodesSpec)) convDecodesUptoCard

/-- THE SECOND FORM's CARD OF 'roamkeep.ConvBest'. -/
def convBestUptoCard : Claim7 := { stood := { row := convBestUptoRow, standIns := [], harness := (true, "3a8c5a8f9e926c28f8790699186b9dec452894f633948dd40e3f92257955fe6f"), looks := false }, kinds := [], alts := [], laidByText := true, laidKinds := [.data], laidTests := true, laidLooks := .later }
def ConvBestUptoCardSaid : Prop := Claim7.holds Tryd.pinned (.plain (OpenSpec.upto convBestSpec)) convBestUptoCard

/-- THE SECOND FORM's CARD OF 'roamkeep.ConvBack'. -/
def convBackUptoCard : Claim7 := { stood := { row := convBackUptoRow, standIns := [], harness := (true, "3a8c5a8f9e926c28f8790699186b9dec452894f633948dd40e3f92257955fe6f"), looks := false }, kinds := [], alts := [], laidByText := true, laidKinds := [.data], laidTests := true, laidLooks := .later }
def ConvBackUptoCardSaid : Prop := Claim7.holds Tryd.pinned (.plain (OpenSpec.upto convBackSpec)) convBackUptoCard

/-- THE SECOND FORM's CARD OF 'roamlaw.PolarSays'. -/
def polarSaysUptoCard : Claim7 := { stood := { row := polarSaysUptoRow, standIns := [], harness := (true, "3a8c5a8f9e926c28f8790699186b9dec452894f633948dd40e3f92257955fe6f"), looks := false }, kinds := [], alts := [], laidByText := true, laidKinds := [.data], laidTests := true, laidLooks := .later }
def PolarSaysUptoCardSaid : Prop := Claim7.holds Tryd.pinned (.plain (OpenSpec.upto polarSaysSpec)) polarSaysUptoCard
end Rows
end Go.Proofs.YtfbjedcfppghgabDoor
