/-
  DERIVED. GIVEN WITH THE SEED: THE CARDS: each row of YtdjodmhhmjhmgaeDoorRows.lean that lists a variable, with what it lists TIED to the program's text (the seventh form; the later family's looks); each row that meets fmt, with fmt's text TOLD by the authors' own Lean function (tested against real Go, not proved from fmt's source: count such statements apart). THE CARD IS WHAT COUNTS. Prove the row's statement (the work); the ties are given (YtdjodmhhmjhmgaeDoorTie.lean); close each card by the builder's one call (the guide's Derived/Test/ToyasCard.lean, 'card_holds'). Laid BY PROGRAM, IN A SANDBOX (cutbox-door.mjs). By AI agents, Wed Nov 11 2026. No macro, syntax, notation, axiom, sorry.
-/
import Derived.Test.YtdjodmhhmjhmgaeDoorRows
import GoSem.ClaimSeven
namespace Go.Proofs.YtdjodmhhmjhmgaeDoor
namespace Rows

/-- THE TIED CARD OF 'roamlaw.HarqSends'. -/
def harqSendsCard : Claim7 := { stood := { row := harqSendsRow, standIns := [], harness := (true, "ddefb9076f997005b9c3c1b8b3de46e4f8ebe07936e8aa8167da781999aaa2fb"), looks := false }, kinds := [], alts := [], laidByText := true, laidKinds := [.data], laidTests := true, laidLooks := .later }
def HarqSendsCardSaid : Prop := Claim7.holds Tryd.pinned (.plain (OpenSpec.ofChange harqSendsSpec)) harqSendsCard

/-- THE TIED CARD OF 'roamkeep.HarqOnce'. -/
def harqOnceCard : Claim7 := { stood := { row := harqOnceRow, standIns := [], harness := (true, "ddefb9076f997005b9c3c1b8b3de46e4f8ebe07936e8aa8167da781999aaa2fb"), looks := false }, kinds := [], alts := [], laidByText := true, laidKinds := [.data], laidTests := true, laidLooks := .later }
def HarqOnceCardSaid : Prop := Claim7.holds Tryd.pinned (.plain (OpenSpec.ofChange harqOnceSpec)) harqOnceCard

/-- THE TIED CARD OF 'roamlaw.MacJoins'. -/
def macJoinsCard : Claim7 := { stood := { row := macJoinsRow, standIns := [], harness := (true, "ddefb9076f997005b9c3c1b8b3de46e4f8ebe07936e8aa8167da781999aaa2fb"), looks := false }, kinds := [], alts := [], laidByText := true, laidKinds := [.data, .pinned], laidTests := true, laidLooks := .later }
def MacJoinsCardSaid : Prop := Claim7.holds Tryd.pinned (.plain (OpenSpec.ofChange macJoinsSpec)) macJoinsCard

/-- THE SECOND FORM's CARD OF 'roamlaw.HarqSends'. -/
def harqSendsUptoCard : Claim7 := { stood := { row := harqSendsUptoRow, standIns := [], harness := (true, "ddefb9076f997005b9c3c1b8b3de46e4f8ebe07936e8aa8167da781999aaa2fb"), looks := false }, kinds := [], alts := [], laidByText := true, laidKinds := [.data], laidTests := true, laidLooks := .later }
def HarqSendsUptoCardSaid : Prop := Claim7.holds Tryd.pinned (.plain (OpenSpec.upto harqSendsSpec)) harqSendsUptoCard

/-- THE SECOND FORM's CARD OF 'roamkeep.HarqOnce'. -/
def harqOnceUptoCard : Claim7 := { stood := { row := harqOnceUptoRow, standIns := [], harness := (true, "ddefb9076f997005b9c3c1b8b3de46e4f8ebe07936e8aa8167da781999aaa2fb"), looks := false }, kinds := [], alts := [], laidByText := true, laidKinds := [.data], laidTests := true, laidLooks := .later }
def HarqOnceUptoCardSaid : Prop := Claim7.holds Tryd.pinned (.plain (OpenSpec.upto harqOnceSpec)) harqOnceUptoCard

/-- THE SECOND FORM's CARD OF 'roamlaw.MacJoins'. -/
def macJoinsUptoCard : Claim7 := { stood := { row := macJoinsUptoRow, standIns := [], harness := (true, "ddefb9076f997005b9c3c1b8b3de46e4f8ebe07936e8aa8167da781999aaa2fb"), looks := false }, kinds := [], alts := [], laidByText := true, laidKinds := [.data, .pinned], laidTests := true, laidLooks := .later }
def MacJoinsUptoCardSaid : Prop := Claim7.holds Tryd.pinned (.plain (OpenSpec.upto macJoinsSpec)) macJoinsUptoCard
end Rows
end Go.Proofs.YtdjodmhhmjhmgaeDoor
