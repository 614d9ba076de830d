/-
  DERIVED. GIVEN WITH THE SEED: THE CARDS: each row of YtaggbkhpoaacjacDoorRows.lean that lists a variable, with what it lists TIED to the program's text (the seventh form; the later family's looks); each row that meets fmt, with fmt's text TOLD by the authors' own Lean function (tested against real Go, not proved from fmt's source: count such statements apart). THE CARD IS WHAT COUNTS. Prove the row's statement (the work); the ties are given (YtaggbkhpoaacjacDoorTie.lean); close each card by the builder's one call (the guide's Derived/Test/ToyasCard.lean, 'card_holds'). Laid BY PROGRAM, IN A SANDBOX (cutbox-door.mjs). By AI agents, Wed Nov 11 2026. No macro, syntax, notation, axiom, sorry.
-/
import Derived.Test.YtaggbkhpoaacjacDoorRows
import GoSem.ClaimSeven
namespace Go.Proofs.YtaggbkhpoaacjacDoor
namespace Rows

/-- THE TIED CARD OF 'roamkeep.PolarBack'. -/
def polarBackCard : Claim7 := { stood := { row := polarBackRow, standIns := [], harness := (true, "04205a917ad686441c0c4c63851cc839fbab90c3505d9b4eb73c845cd32b4cb5"), looks := false }, kinds := [], alts := [], laidByText := true, laidKinds := [.data], laidTests := true, laidLooks := .later }
def PolarBackCardSaid : Prop := Claim7.holds Tryd.pinned (.plain (OpenSpec.ofChange polarBackSpec)) polarBackCard

/-- THE TIED CARD OF 'roamlaw.MatchPicks'. -/
def matchPicksCard : Claim7 := { stood := { row := matchPicksRow, standIns := [], harness := (true, "04205a917ad686441c0c4c63851cc839fbab90c3505d9b4eb73c845cd32b4cb5"), looks := false }, kinds := [], alts := [], laidByText := true, laidKinds := [.data], laidTests := true, laidLooks := .later }
def MatchPicksCardSaid : Prop := Claim7.holds Tryd.pinned (.plain (OpenSpec.ofChange matchPicksSpec)) matchPicksCard

/-- THE TIED CARD OF 'roamlaw.MatchGathers'. -/
def matchGathersCard : Claim7 := { stood := { row := matchGathersRow, standIns := [], harness := (true, "04205a917ad686441c0c4c63851cc839fbab90c3505d9b4eb73c845cd32b4cb5"), looks := false }, kinds := [], alts := [], laidByText := true, laidKinds := [.data], laidTests := true, laidLooks := .later }
def MatchGathersCardSaid : Prop := Claim7.holds Tryd.pinned (.plain (OpenSpec.ofChange matchGathersSpec)) matchGathersCard

/-- THE TIED CARD OF 'roamkeep.MatchAll'. -/
def matchAllCard : Claim7 := { stood := { row := matchAllRow, standIns := [], harness := (true, "04205a917ad686441c0c4c63851cc839fbab90c3505d9b4eb73c845cd32b4cb5"), looks := false }, kinds := [], alts := [], laidByText := true, laidKinds := [.data], laidTests := true, laidLooks := .later }
def MatchAllCardSaid : Prop := Claim7.holds Tryd.pinned (.plain (OpenSpec.ofChange matchAllSpec)) matchAllCard

/-- THE SECOND FORM's CARD OF 'roamkeep.PolarBack'. -/
def polarBackUptoCard : Claim7 := { stood := { row := polarBackUptoRow, standIns := [], harness := (true, "04205a917ad686441c0c4c63851cc839fbab90c3505d9b4eb73c845cd32b4cb5"), looks := false }, kinds := [], alts := [], laidByText := true, laidKinds := [.data], laidTests := true, laidLooks := .later }
def PolarBackUptoCardSaid : Prop := Claim7.holds Tryd.pinned (.plain (OpenSpec.upto polarBackSpec)) polarBackUptoCard

/-- THE SECOND FORM's CARD OF 'roamlaw.MatchPicks'. -/
def matchPicksUptoCard : Claim7 := { stood := { row := matchPicksUptoRow, standIns := [], harness := (true, "04205a917ad686441c0c4c63851cc839fbab90c3505d9b4eb73c845cd32b4cb5"), looks := false }, kinds := [], alts := [], laidByText := true, laidKinds := [.data], laidTests := true, laidLooks := .later }
def MatchPicksUptoCardSaid : Prop := Claim7.holds Tryd.pinned (.plain (OpenSpec.upto matchPicksSpec)) matchPicksUptoCard

/-- THE SECOND FORM's CARD OF 'roamlaw.MatchGathers'. -/
def matchGathersUptoCard : Claim7 := { stood := { row := matchGathersUptoRow, standIns := [], harness := (true, "04205a917ad686441c0c4c63851cc839fbab90c3505d9b4eb73c845cd32b4cb5"), looks := false }, kinds := [], alts := [], laidByText := true, laidKinds := [.data], laidTests := true, laidLooks := .later }
def MatchGathersUptoCardSaid : Prop := Claim7.holds Tryd.pinned (.plain (OpenSpec.upto matchGathersSpec)) matchGathersUptoCard

/-- THE SECOND FORM's CARD OF 'roamkeep.MatchAll'. -/
def matchAllUptoCard : Claim7 := { stood := { row := matchAllUptoRow, standIns := [], harness := (true, "04205a917ad686441c0c4c63851cc839fbab90c3505d9b4eb73c845cd32b4cb5"), looks := false }, kinds := [], alts := [], laidByText := true, laidKinds := [.data], laidTests := true, laidLooks := .later }
def MatchAllUptoCardSaid : Prop := Claim7.holds Tryd.pinned (.plain (OpenSpec.upto matchAllSpec)) matchAllUptoCard
end Rows
end Go.Proofs.YtaggbkhpoaacjacDoor
