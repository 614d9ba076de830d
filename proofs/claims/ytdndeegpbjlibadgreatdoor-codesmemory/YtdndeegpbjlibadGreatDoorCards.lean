/-
  DERIVED. GIVEN WITH THE SEED: THE CARDS: each row of YtdndeegpbjlibadGreatDoorRows.lean that lists a variable, with what it lists TIED to the program's text (the seventh form; the later family's looks); each row that meets fmt, with fmt's text TOLD by the authors' own Lean function (tested against real Go, not proved from fmt's source: count such statements apart). THE CARD IS WHAT COUNTS. Prove the row's statement (the work); the ties are given (YtdndeegpbjlibadGreatDoorTie.lean); close each card by the builder's one call (the guide's Derived/Test/ToyasCard.lean, 'card_holds'). Laid BY PROGRAM, IN A SANDBOX (cutbox-door.mjs). By AI agents, Wed Nov 11 2026. No macro, syntax, notation, axiom, sorry.
-/
import Derived.Test.YtdndeegpbjlibadGreatDoorRows
import GoSem.ClaimSeven
namespace Go.Proofs.YtdndeegpbjlibadGreatDoor
namespace Rows

/-- THE TIED CARD OF 'roamkeep.CodesMemory'. -/
def codesMemoryCard : Claim7 := { stood := { row := codesMemoryRow, standIns := [], harness := (true, "44d9f5cd97c166dec0d4d52cd1cdd221516b8fbf4901700ada2a5152de6c24de"), looks := false }, kinds := [], alts := [], laidByText := true, laidKinds := [.data, .data, .data], laidTests := true, laidLooks := .later }
def CodesMemoryCardSaid : Prop := Claim7.holds Tryz.pinned (.plain (OpenSpec.ofChange codesMemorySpec)) codesMemoryCard

/-- THE SECOND FORM's CARD OF 'roamkeep.CodesMemory'. -/
def codesMemoryUptoCard : Claim7 := { stood := { row := codesMemoryUptoRow, standIns := [], harness := (true, "44d9f5cd97c166dec0d4d52cd1cdd221516b8fbf4901700ada2a5152de6c24de"), looks := false }, kinds := [], alts := [], laidByText := true, laidKinds := [.data, .data, .data], laidTests := true, laidLooks := .later }
def CodesMemoryUptoCardSaid : Prop := Claim7.holds Tryz.pinned (.plain (OpenSpec.upto codesMemorySpec)) codesMemoryUptoCard
end Rows
end Go.Proofs.YtdndeegpbjlibadGreatDoor
