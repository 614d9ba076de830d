/-
  DERIVED. GIVEN WITH THE SEED: THE CARDS: each row of YtfbjedcfppghgacDoorRows.lean that lists a variable, with what it lists TIED to the program's text (the seventh form; the later family's looks); each row that meets fmt, with fmt's text TOLD by the authors' own Lean function (tested against real Go, not proved from fmt's source: count such statements apart). THE CARD IS WHAT COUNTS. Prove the row's statement (the work); the ties are given (YtfbjedcfppghgacDoorTie.lean); close each card by the builder's one call (the guide's Derived/Test/ToyasCard.lean, 'card_holds'). Laid BY PROGRAM, IN A SANDBOX (cutbox-door.mjs). By AI agents, Wed Nov 11 2026. No macro, syntax, notation, axiom, sorry.
-/
import Derived.Test.YtfbjedcfppghgacDoorRows
import GoSem.ClaimSeven
namespace Go.Proofs.YtfbjedcfppghgacDoor
namespace Rows

/-- THE TIED CARD OF 'roamkeep.PolarBack'. -/
def polarBackCard : Claim7 := { stood := { row := polarBackRow, standIns := [], harness := (true, "981c02007b1097fea1f7df70ff21d208bc3d5dcd7ccee886b3c4f6addc6440ea"), looks := false }, kinds := [], alts := [], laidByText := true, laidKinds := [.data], laidTests := true, laidLooks := .later }
def PolarBackCardSaid : Prop := Claim7.holds Tryd.pinned (.plain (OpenSpec.ofChange polarBackSpec)) polarBackCard

/-- THE SECOND FORM's CARD OF 'roamkeep.PolarBack'. -/
def polarBackUptoCard : Claim7 := { stood := { row := polarBackUptoRow, standIns := [], harness := (true, "981c02007b1097fea1f7df70ff21d208bc3d5dcd7ccee886b3c4f6addc6440ea"), looks := false }, kinds := [], alts := [], laidByText := true, laidKinds := [.data], laidTests := true, laidLooks := .later }
def PolarBackUptoCardSaid : Prop := Claim7.holds Tryd.pinned (.plain (OpenSpec.upto polarBackSpec)) polarBackUptoCard
end Rows
end Go.Proofs.YtfbjedcfppghgacDoor
