/-
  DERIVED. GIVEN WITH THE SEED: THE CARDS: each row of YtplkmkbambbemaeGreatDoorRows.lean that lists a variable, with what it lists TIED to the program's text (the seventh form; the later family's looks); each row that meets fmt, with fmt's text TOLD by the authors' own Lean function (tested against real Go, not proved from fmt's source: count such statements apart). THE CARD IS WHAT COUNTS. Prove the row's statement (the work); the ties are given (YtplkmkbambbemaeGreatDoorTie.lean); close each card by the builder's one call (the guide's Derived/Test/ToyasCard.lean, 'card_holds'). Laid BY PROGRAM, IN A SANDBOX (cutbox-door.mjs). By AI agents, Wed Nov 11 2026. No macro, syntax, notation, axiom, sorry.
-/
import Derived.Test.YtplkmkbambbemaeGreatDoorRows
import GoSem.ClaimSeven
namespace Go.Proofs.YtplkmkbambbemaeGreatDoor
namespace Rows

/-- THE TIED CARD OF 'roamkeep.BufferMemory'. -/
def bufferMemoryCard : Claim7 := { stood := { row := bufferMemoryRow, standIns := [], harness := (true, "40dcee82b1fcdbed60ee6cd75ad10be7c84defe9179f21c2506085269f5c6061"), looks := false }, kinds := [], alts := [], laidByText := true, laidKinds := [.data, .data, .data], laidTests := true, laidLooks := .later }
def BufferMemoryCardSaid : Prop := Claim7.holds Tryz.pinned (.plain (OpenSpec.ofChange bufferMemorySpec)) bufferMemoryCard

/-- THE SECOND FORM's CARD OF 'roamkeep.BufferMemory'. -/
def bufferMemoryUptoCard : Claim7 := { stood := { row := bufferMemoryUptoRow, standIns := [], harness := (true, "40dcee82b1fcdbed60ee6cd75ad10be7c84defe9179f21c2506085269f5c6061"), looks := false }, kinds := [], alts := [], laidByText := true, laidKinds := [.data, .data, .data], laidTests := true, laidLooks := .later }
def BufferMemoryUptoCardSaid : Prop := Claim7.holds Tryz.pinned (.plain (OpenSpec.upto bufferMemorySpec)) bufferMemoryUptoCard
end Rows
end Go.Proofs.YtplkmkbambbemaeGreatDoor
