/-
  NARROWER THAN 'FOR EVERY INPUT', by the rows' own cells (each row's printed sentence says how): CodesMemory: laid · LinkSays: laid · LinkBack: laid.
  DERIVED. THE GIVEN ROWS OF THIS SEAT. 3 by the template 'for every input the law returns true; each argument reads behind the call as it read before'; 0 by the template 'total and deterministic' (their statements: YtplkmkbambbemadGreatDoorTotals.lean).
  GIVEN WITH THE SEED: the statements are not yours to turn. If you find one false, say at which input.
  Laid BY PROGRAM, IN A SANDBOX (cutbox-rows.mjs): the forced cells as the released guide's own fill.sh prints them over the translation 2207b52a68bf4827… (all of the seat's roots in one cut). By AI agents, Wed Nov 11 2026. No macro, syntax, notation, axiom, sorry.
-/
import Derived.Test.YtplkmkbambbemadGreatDoorChecked
import GoSem.Claim
import GoSem.ClaimJoined
import GoSem.ClaimMapViews
import Derived.JoinedTies
import Derived.KernelRfl
namespace Go.Proofs.YtplkmkbambbemadGreatDoor
/- THE CELL 'sum', in the pinned program and in every row, IS THE sha256 OF THE DUMP (.gsa) THAT YtplkmkbambbemadGreatDoorProg.lean LOADS. Nothing in Lean hashes anything: it is a label: what it is worth is what the hold of that sum in a sandbox is worth. -/
noncomputable def Tryz.pinned : Pinned := { name := "ytplkmkbambbemadgreatdoor", sum := "2207b52a68bf4827b3673382b548f4e05a15122a77e9410c93b496856e150fa1", checked := Tryz.checked }
namespace Rows
def none {H : Type} : Left H := { results := [], args := [] }

/- WHAT THE LISTED PACKAGE-LEVEL VARIABLES READ AS WHEN THE CALL BEGINS. Each datum BY PROGRAM (the guide's laid-datum.mjs) off the statement by which the dump's own 'gosem.cut.vars' lays the variable. In a bare row this is a premise. The card (YtplkmkbambbemadGreatDoorCards.lean) ties it to the program's text. -/
def laid_roamwave_conv_taps {H : Type} : DataW H := .agg [.lit (.int .u64 79), .lit (.int .u64 109), .lit (.int .u64 87)]
def laid_roamwave_match_columns {H : Type} : DataW H := .agg [.lit (.int .i64 0), .lit (.int .i64 4), .lit (.int .i64 2), .lit (.int .i64 6), .lit (.int .i64 1), .lit (.int .i64 5), .lit (.int .i64 3), .lit (.int .i64 7)]
def laid_roamwave_polar_worths {H : Type} : DataW H := .agg [.lit (.int .i64 1000), .lit (.int .i64 1189), .lit (.int .i64 1414), .lit (.int .i64 1681), .lit (.int .i64 2000), .lit (.int .i64 2378), .lit (.int .i64 2828), .lit (.int .i64 3363), .lit (.int .i64 4000)]

/-- 'roamkeep.CodesMemory': WHATEVER THE INPUT: true; the input reads as it did. -/
def codesMemorySpec : ChangeSpec := { name := "codesMemory", fn := fun _ => fun
  | [d1, d2, d3, d4] => { results := [.lit (.bool true)], args := [d1, d2, d3, d4] }
  | _ => none }
def codesMemoryRow : OpenClaim := { program := "ytplkmkbambbemadgreatdoor", sum := "2207b52a68bf4827b3673382b548f4e05a15122a77e9410c93b496856e150fa1", func := "roamwave/roamkeep.CodesMemory", spec := "codesMemory", unfollowed := true, recurses := true, named := ["roamwave/conv.taps", "roamwave/polar.worths", "roamwave/match.columns"], apart := false, laid := [("roamwave/conv.taps", laid_roamwave_conv_taps), ("roamwave/match.columns", laid_roamwave_match_columns), ("roamwave/polar.worths", laid_roamwave_polar_worths)] }
def CodesMemorySaid : Prop := codesMemoryRow.holds Tryz.pinned (OpenSpec.ofChange codesMemorySpec)

/-- ITS FALSE NEIGHBOUR: 'it returns false'. Refute it at one input. -/
def codesMemoryWrong : ChangeSpec := { name := "codesMemory", fn := fun _ => fun
  | [d1, d2, d3, d4] => { results := [.lit (.bool false)], args := [d1, d2, d3, d4] }
  | _ => none }
def CodesMemoryWrongFalsely : Prop := codesMemoryRow.holds Tryz.pinned (OpenSpec.ofChange codesMemoryWrong)

/-- 'roamlaw.LinkSays': WHATEVER THE INPUT: true; the input reads as it did. -/
def linkSaysSpec : ChangeSpec := { name := "linkSays", fn := fun _ => fun
  | [d1, d2, d3, d4, d5] => { results := [.lit (.bool true)], args := [d1, d2, d3, d4, d5] }
  | _ => none }
def linkSaysRow : OpenClaim := { program := "ytplkmkbambbemadgreatdoor", sum := "2207b52a68bf4827b3673382b548f4e05a15122a77e9410c93b496856e150fa1", func := "roamwave/roamlaw.LinkSays", spec := "linkSays", unfollowed := true, recurses := true, named := ["roamwave/polar.worths", "roamwave/conv.taps", "roamwave/match.columns"], apart := false, laid := [("roamwave/conv.taps", laid_roamwave_conv_taps), ("roamwave/match.columns", laid_roamwave_match_columns), ("roamwave/polar.worths", laid_roamwave_polar_worths)] }
def LinkSaysSaid : Prop := linkSaysRow.holds Tryz.pinned (OpenSpec.ofChange linkSaysSpec)

/-- ITS FALSE NEIGHBOUR: 'it returns false'. Refute it at one input. -/
def linkSaysWrong : ChangeSpec := { name := "linkSays", fn := fun _ => fun
  | [d1, d2, d3, d4, d5] => { results := [.lit (.bool false)], args := [d1, d2, d3, d4, d5] }
  | _ => none }
def LinkSaysWrongFalsely : Prop := linkSaysRow.holds Tryz.pinned (OpenSpec.ofChange linkSaysWrong)

/-- 'roamkeep.LinkBack': WHATEVER THE INPUT: true; the input reads as it did. -/
def linkBackSpec : ChangeSpec := { name := "linkBack", fn := fun _ => fun
  | [d1, d2, d3] => { results := [.lit (.bool true)], args := [d1, d2, d3] }
  | _ => none }
def linkBackRow : OpenClaim := { program := "ytplkmkbambbemadgreatdoor", sum := "2207b52a68bf4827b3673382b548f4e05a15122a77e9410c93b496856e150fa1", func := "roamwave/roamkeep.LinkBack", spec := "linkBack", unfollowed := true, recurses := true, named := ["roamwave/polar.worths", "roamwave/conv.taps", "roamwave/match.columns"], apart := false, laid := [("roamwave/conv.taps", laid_roamwave_conv_taps), ("roamwave/match.columns", laid_roamwave_match_columns), ("roamwave/polar.worths", laid_roamwave_polar_worths)] }
def LinkBackSaid : Prop := linkBackRow.holds Tryz.pinned (OpenSpec.ofChange linkBackSpec)

/-- ITS FALSE NEIGHBOUR: 'it returns false'. Refute it at one input. -/
def linkBackWrong : ChangeSpec := { name := "linkBack", fn := fun _ => fun
  | [d1, d2, d3] => { results := [.lit (.bool false)], args := [d1, d2, d3] }
  | _ => none }
def LinkBackWrongFalsely : Prop := linkBackRow.holds Tryz.pinned (OpenSpec.ofChange linkBackWrong)

/- THE SECOND FORM. 'bulk': how many values and letters a reading holds, each counted each time it is reached (what is shared counts as often as it is met; a slice's spare places count too). A statement '..UptoSaid' is the law's where the arguments, and the package variables that the reading takes, are together of bulk at most 1048576: NARROWER than '..Said'. Prove '..Said' where nothing that the law and all that it calls make is longer than what came in: it says more and counts as full. Else prove '..UptoSaid'. A law counts once. -/
mutual
def uptoBulk {H : Type} : DataW H → Nat
  | .lit (.string bytes) => bytes.length + 1
  | .lit _ => 1
  | .nil => 1
  | .ptr d => uptoBulk d + 1
  | .slice elems spare => uptoBulkAll elems + uptoBulkAll spare + 1
  | .agg parts => uptoBulkAll parts + 1
  | .iface _ d => uptoBulk d + 1
  | .map entries => uptoBulkEntries entries + 1
  | .held _ => 1
def uptoBulkAll {H : Type} : List (DataW H) → Nat
  | [] => 0
  | d :: r => uptoBulk d + uptoBulkAll r
def uptoBulkEntries {H : Type} : List (Lit × DataW H) → Nat
  | [] => 0
  | x :: r => uptoBulkEntry x + uptoBulkEntries r
def uptoBulkEntry {H : Type} : Lit × DataW H → Nat
  | (.string bytes, d) => bytes.length + uptoBulk d + 1
  | (_, d) => uptoBulk d + 1
 end
def uptoSmall : (H : Type) → List (DataW H) → Bool := fun _ ds => decide (uptoBulkAll ds ≤ 1048576)
def OpenSpec.upto (s : _root_.Go.ChangeSpec) : _root_.Go.OpenSpec := { _root_.Go.OpenSpec.ofChange s with cond := some uptoSmall }

/-- 'roamkeep.CodesMemory', WHERE WHAT IT READS IS OF BULK AT MOST 1048576: true; the input reads as it did. -/
def codesMemoryUptoRow : OpenClaim := { program := "ytplkmkbambbemadgreatdoor", sum := "2207b52a68bf4827b3673382b548f4e05a15122a77e9410c93b496856e150fa1", func := "roamwave/roamkeep.CodesMemory", spec := "codesMemory", unfollowed := true, recurses := true, named := ["roamwave/conv.taps", "roamwave/polar.worths", "roamwave/match.columns"], apart := false, laid := [("roamwave/conv.taps", laid_roamwave_conv_taps), ("roamwave/match.columns", laid_roamwave_match_columns), ("roamwave/polar.worths", laid_roamwave_polar_worths)], narrowed := true }
def CodesMemoryUptoSaid : Prop := codesMemoryUptoRow.holds Tryz.pinned (OpenSpec.upto codesMemorySpec)

/-- 'roamlaw.LinkSays', WHERE WHAT IT READS IS OF BULK AT MOST 1048576: true; the input reads as it did. -/
def linkSaysUptoRow : OpenClaim := { program := "ytplkmkbambbemadgreatdoor", sum := "2207b52a68bf4827b3673382b548f4e05a15122a77e9410c93b496856e150fa1", func := "roamwave/roamlaw.LinkSays", spec := "linkSays", unfollowed := true, recurses := true, named := ["roamwave/polar.worths", "roamwave/conv.taps", "roamwave/match.columns"], apart := false, laid := [("roamwave/conv.taps", laid_roamwave_conv_taps), ("roamwave/match.columns", laid_roamwave_match_columns), ("roamwave/polar.worths", laid_roamwave_polar_worths)], narrowed := true }
def LinkSaysUptoSaid : Prop := linkSaysUptoRow.holds Tryz.pinned (OpenSpec.upto linkSaysSpec)

/-- 'roamkeep.LinkBack', WHERE WHAT IT READS IS OF BULK AT MOST 1048576: true; the input reads as it did. -/
def linkBackUptoRow : OpenClaim := { program := "ytplkmkbambbemadgreatdoor", sum := "2207b52a68bf4827b3673382b548f4e05a15122a77e9410c93b496856e150fa1", func := "roamwave/roamkeep.LinkBack", spec := "linkBack", unfollowed := true, recurses := true, named := ["roamwave/polar.worths", "roamwave/conv.taps", "roamwave/match.columns"], apart := false, laid := [("roamwave/conv.taps", laid_roamwave_conv_taps), ("roamwave/match.columns", laid_roamwave_match_columns), ("roamwave/polar.worths", laid_roamwave_polar_worths)], narrowed := true }
def LinkBackUptoSaid : Prop := linkBackUptoRow.holds Tryz.pinned (OpenSpec.upto linkBackSpec)

end Rows
end Go.Proofs.YtplkmkbambbemadGreatDoor
