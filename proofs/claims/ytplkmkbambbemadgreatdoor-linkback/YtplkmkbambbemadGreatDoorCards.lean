/-
  DERIVED. GIVEN WITH THE SEED: THE CARDS: each row of YtplkmkbambbemadGreatDoorRows.lean that lists a variable, with what it lists TIED to the program's text (the seventh form; the later family's looks); each row that meets fmt, with fmt's text TOLD by the authors' own Lean function (tested against real Go, not proved from fmt's source: count such statements apart). THE CARD IS WHAT COUNTS. Prove the row's statement (the work); the ties are given (YtplkmkbambbemadGreatDoorTie.lean); close each card by the builder's one call (the guide's Derived/Test/ToyasCard.lean, 'card_holds'). Laid BY PROGRAM, IN A SANDBOX (cutbox-door.mjs). By AI agents, Wed Nov 11 2026. No macro, syntax, notation, axiom, sorry.
-/
import Derived.Test.YtplkmkbambbemadGreatDoorRows
import GoSem.ClaimSeven
namespace Go.Proofs.YtplkmkbambbemadGreatDoor
namespace Rows

/-- THE TIED CARD OF 'roamkeep.CodesMemory'. -/
def codesMemoryCard : Claim7 := { stood := { row := codesMemoryRow, standIns := [], harness := (true, "ee5481f7568ef988812b2c2298f18fd900c4b65600f596dd45e8e32f51a6613e"), looks := false }, kinds := [], alts := [], laidByText := true, laidKinds := [.data, .data, .data], laidTests := true, laidLooks := .later }
def CodesMemoryCardSaid : Prop := Claim7.holds Tryz.pinned (.plain (OpenSpec.ofChange codesMemorySpec)) codesMemoryCard

/-- THE TIED CARD OF 'roamlaw.LinkSays'. -/
def linkSaysCard : Claim7 := { stood := { row := linkSaysRow, standIns := [], harness := (true, "ee5481f7568ef988812b2c2298f18fd900c4b65600f596dd45e8e32f51a6613e"), looks := false }, kinds := [], alts := [], laidByText := true, laidKinds := [.data, .data, .data], laidTests := true, laidLooks := .later }
def LinkSaysCardSaid : Prop := Claim7.holds Tryz.pinned (.plain (OpenSpec.ofChange linkSaysSpec)) linkSaysCard

/-- THE TIED CARD OF 'roamkeep.LinkBack'. -/
def linkBackCard : Claim7 := { stood := { row := linkBackRow, standIns := [], harness := (true, "ee5481f7568ef988812b2c2298f18fd900c4b65600f596dd45e8e32f51a6613e"), looks := false }, kinds := [], alts := [], laidByText := true, laidKinds := [.data, .data, .data], laidTests := true, laidLooks := .later }
def LinkBackCardSaid : Prop := Claim7.holds Tryz.pinned (.plain (OpenSpec.ofChange linkBackSpec)) linkBackCard

/-- THE SECOND FORM's CARD OF 'roamkeep.CodesMemory'. -/
def codesMemoryUptoCard : Claim7 := { stood := { row := codesMemoryUptoRow, standIns := [], harness := (true, "ee5481f7568ef988812b2c2298f18fd900c4b65600f596dd45e8e32f51a6613e"), looks := false }, kinds := [], alts := [], laidByText := true, laidKinds := [.data, .data, .data], laidTests := true, laidLooks := .later }
def CodesMemoryUptoCardSaid : Prop := Claim7.holds Tryz.pinned (.plain (OpenSpec.upto codesMemorySpec)) codesMemoryUptoCard

/-- THE SECOND FORM's CARD OF 'roamlaw.LinkSays'. -/
def linkSaysUptoCard : Claim7 := { stood := { row := linkSaysUptoRow, standIns := [], harness := (true, "ee5481f7568ef988812b2c2298f18fd900c4b65600f596dd45e8e32f51a6613e"), looks := false }, kinds := [], alts := [], laidByText := true, laidKinds := [.data, .data, .data], laidTests := true, laidLooks := .later }
def LinkSaysUptoCardSaid : Prop := Claim7.holds Tryz.pinned (.plain (OpenSpec.upto linkSaysSpec)) linkSaysUptoCard

/-- THE SECOND FORM's CARD OF 'roamkeep.LinkBack'. -/
def linkBackUptoCard : Claim7 := { stood := { row := linkBackUptoRow, standIns := [], harness := (true, "ee5481f7568ef988812b2c2298f18fd900c4b65600f596dd45e8e32f51a6613e"), looks := false }, kinds := [], alts := [], laidByText := true, laidKinds := [.data, .data, .data], laidTests := true, laidLooks := .later }
def LinkBackUptoCardSaid : Prop := Claim7.holds Tryz.pinned (.plain (OpenSpec.upto linkBackSpec)) linkBackUptoCard
end Rows
end Go.Proofs.YtplkmkbambbemadGreatDoor
