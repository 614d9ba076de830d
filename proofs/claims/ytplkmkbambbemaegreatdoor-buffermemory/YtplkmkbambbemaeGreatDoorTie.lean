/-
  DERIVED. GIVEN WITH THE SEED: THE PROGRAM's TIES (one call each: nine closed facts by the kernel) AND EACH ROW's TIE, after the 31st guide's Derived/Test/Toyas{Tie, Card}.lean. No idea stands in it: it is a product of the set-up. Laid BY PROGRAM, IN A SANDBOX (cutbox-door.mjs). By AI agents, Wed Nov 11 2026. No macro, syntax, notation, axiom, sorry.
-/
import Derived.Test.YtplkmkbambbemaeGreatDoorRows
import Derived.LaidByTextLater
import Derived.SevenTiedAt
import Derived.LaidSub
import Derived.LaidOnce
namespace Go.Proofs.YtplkmkbambbemaeGreatDoor
open Go
set_option maxRecDepth 100000
theorem seatTie1 : Tryz.prog.laidByTextLater [("roamwave/conv.taps", Rows.laid_roamwave_conv_taps), ("roamwave/match.columns", Rows.laid_roamwave_match_columns), ("roamwave/polar.worths", Rows.laid_roamwave_polar_worths)] [.data, .data, .data] true :=
  Program.laidByTextLater_by_one 24 8 10 (by kernel_rfl) (by kernel_rfl) (by kernel_rfl) (by kernel_rfl) (by kernel_rfl) (by kernel_rfl) (fun _ _ => by kernel_rfl)
theorem noOwnUnsafe : Tryz.pinned.checked.prog.headLifts.contains "ownunsafe" = false := by kernel_rfl
theorem tie : Tryz.prog.laidByTextLater [("roamwave/conv.taps", Rows.laid_roamwave_conv_taps), ("roamwave/match.columns", Rows.laid_roamwave_match_columns), ("roamwave/polar.worths", Rows.laid_roamwave_polar_worths)] [.data, .data, .data] true :=
  Program.laidByTextLater.sub seatTie1 ["roamwave/conv.taps", "roamwave/match.columns", "roamwave/polar.worths"] (by kernel_rfl) (by kernel_rfl)
theorem bufferMemory_row_tie : Rows.bufferMemoryRow.laidByTextAt .later Tryz.pinned [.data, .data, .data] true :=
  OpenClaim.laidByTextAt_later rfl rfl tie noOwnUnsafe
theorem bufferMemoryUpto_row_tie : Rows.bufferMemoryUptoRow.laidByTextAt .later Tryz.pinned [.data, .data, .data] true :=
  OpenClaim.laidByTextAt_later rfl rfl tie noOwnUnsafe
end Go.Proofs.YtplkmkbambbemaeGreatDoor
