/-
  DERIVED. GIVEN WITH THE SEED: THE CARDS: each row of YtmdfjhnibhmdkafDoorRows.lean that lists a variable, with what it lists TIED to the program's text (the seventh form; the later family's looks); each row that meets fmt, with fmt's text TOLD by the authors' own Lean function (tested against real Go, not proved from fmt's source: count such statements apart). THE CARD IS WHAT COUNTS. Prove the row's statement (the work); the ties are given (YtmdfjhnibhmdkafDoorTie.lean); close each card by the builder's one call (the guide's Derived/Test/ToyasCard.lean, 'card_holds'). Laid BY PROGRAM, IN A SANDBOX (cutbox-door.mjs). By AI agents, Wed Nov 11 2026. No macro, syntax, notation, axiom, sorry.
-/
import Derived.Test.YtmdfjhnibhmdkafDoorRows
import GoSem.ClaimSeven
namespace Go.Proofs.YtmdfjhnibhmdkafDoor
namespace Rows

/-- THE TIED CARD OF 'roamkeep.MacFull'. -/
def macFullCard : Claim7 := { stood := { row := macFullRow, standIns := [], harness := (true, "2cbfc8ceb4f9bfc1a5f133156be7be17f197625d33a36e13fe51848259e65dc6"), looks := false }, kinds := [], alts := [], laidByText := true, laidKinds := [.data, .pinned], laidTests := true, laidLooks := .later }
def MacFullCardSaid : Prop := Claim7.holds Tryd.pinned (.plain (OpenSpec.ofChange macFullSpec)) macFullCard

/-- THE TIED CARD OF 'roamkeep.SharesMemory'. -/
def sharesMemoryCard : Claim7 := { stood := { row := sharesMemoryRow, standIns := [], harness := (true, "2cbfc8ceb4f9bfc1a5f133156be7be17f197625d33a36e13fe51848259e65dc6"), looks := false }, kinds := [], alts := [], laidByText := true, laidKinds := [.data, .pinned], laidTests := true, laidLooks := .later }
def SharesMemoryCardSaid : Prop := Claim7.holds Tryd.pinned (.plain (OpenSpec.ofChange sharesMemorySpec)) sharesMemoryCard

/-- THE SECOND FORM's CARD OF 'roamkeep.MacFull'. -/
def macFullUptoCard : Claim7 := { stood := { row := macFullUptoRow, standIns := [], harness := (true, "2cbfc8ceb4f9bfc1a5f133156be7be17f197625d33a36e13fe51848259e65dc6"), looks := false }, kinds := [], alts := [], laidByText := true, laidKinds := [.data, .pinned], laidTests := true, laidLooks := .later }
def MacFullUptoCardSaid : Prop := Claim7.holds Tryd.pinned (.plain (OpenSpec.upto macFullSpec)) macFullUptoCard

/-- THE SECOND FORM's CARD OF 'roamkeep.SharesMemory'. -/
def sharesMemoryUptoCard : Claim7 := { stood := { row := sharesMemoryUptoRow, standIns := [], harness := (true, "2cbfc8ceb4f9bfc1a5f133156be7be17f197625d33a36e13fe51848259e65dc6"), looks := false }, kinds := [], alts := [], laidByText := true, laidKinds := [.data, .pinned], laidTests := true, laidLooks := .later }
def SharesMemoryUptoCardSaid : Prop := Claim7.holds Tryd.pinned (.plain (OpenSpec.upto sharesMemorySpec)) sharesMemoryUptoCard
end Rows
end Go.Proofs.YtmdfjhnibhmdkafDoor
