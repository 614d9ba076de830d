/-
  NARROWER THAN 'FOR EVERY INPUT', by the rows' own cells (each row's printed sentence says how): ConvEncodes: laid · ConvDecodes: laid · ConvBest: laid · ConvBack: laid · PolarSays: laid.
  DERIVED. THE GIVEN ROWS OF THIS SEAT. 5 by the template 'for every input the law returns true; each argument reads behind the call as it read before'; 0 by the template 'total and deterministic' (their statements: YtfbjedcfppghgabDoorTotals.lean).
  GIVEN WITH THE SEED: the statements are not yours to turn. If you find one false, say at which input.
  Laid BY PROGRAM, IN A SANDBOX (cutbox-rows.mjs): the forced cells as the released guide's own fill.sh prints them over the translation 3137ee40716b2529… (all of the seat's roots in one cut). By AI agents, Wed Nov 11 2026. No macro, syntax, notation, axiom, sorry.
-/
import Derived.Test.YtfbjedcfppghgabDoorChecked
import GoSem.Claim
import GoSem.ClaimJoined
import GoSem.ClaimMapViews
import Derived.JoinedTies
import Derived.KernelRfl
namespace Go.Proofs.YtfbjedcfppghgabDoor
/- THE CELL 'sum', in the pinned program and in every row, IS THE sha256 OF THE DUMP (.gsa) THAT YtfbjedcfppghgabDoorProg.lean LOADS. Nothing in Lean hashes anything: it is a label: what it is worth is what the hold of that sum in a sandbox is worth. -/
noncomputable def Tryd.pinned : Pinned := { name := "ytfbjedcfppghgabdoor", sum := "3137ee40716b252900a561826b4d6dd255d43ad5e47e71c0aaea849a81f90a91", checked := Tryd.checked }
namespace Rows
def none {H : Type} : Left H := { results := [], args := [] }

/- WHAT THE LISTED PACKAGE-LEVEL VARIABLES READ AS WHEN THE CALL BEGINS. Each datum BY PROGRAM (the guide's laid-datum.mjs) off the statement by which the dump's own 'gosem.cut.vars' lays the variable. In a bare row this is a premise. The card (YtfbjedcfppghgabDoorCards.lean) ties it to the program's text. -/
def laid_roamwave_conv_taps {H : Type} : DataW H := .agg [.lit (.int .u64 79), .lit (.int .u64 109), .lit (.int .u64 87)]
def laid_roamwave_polar_worths {H : Type} : DataW H := .agg [.lit (.int .i64 1000), .lit (.int .i64 1189), .lit (.int .i64 1414), .lit (.int .i64 1681), .lit (.int .i64 2000), .lit (.int .i64 2378), .lit (.int .i64 2828), .lit (.int .i64 3363), .lit (.int .i64 4000)]

/-- 'roamlaw.ConvEncodes': WHATEVER THE INPUT: true; the input reads as it did. -/
def convEncodesSpec : ChangeSpec := { name := "convEncodes", fn := fun _ => fun
  | [d1, d2] => { results := [.lit (.bool true)], args := [d1, d2] }
  | _ => none }
def convEncodesRow : OpenClaim := { program := "ytfbjedcfppghgabdoor", sum := "3137ee40716b252900a561826b4d6dd255d43ad5e47e71c0aaea849a81f90a91", func := "roamwave/roamlaw.ConvEncodes", spec := "convEncodes", unfollowed := true, recurses := true, named := ["roamwave/conv.taps"], apart := false, laid := [("roamwave/conv.taps", laid_roamwave_conv_taps)] }
def ConvEncodesSaid : Prop := convEncodesRow.holds Tryd.pinned (OpenSpec.ofChange convEncodesSpec)

/-- ITS FALSE NEIGHBOUR: 'it returns false'. Refute it at one input. -/
def convEncodesWrong : ChangeSpec := { name := "convEncodes", fn := fun _ => fun
  | [d1, d2] => { results := [.lit (.bool false)], args := [d1, d2] }
  | _ => none }
def ConvEncodesWrongFalsely : Prop := convEncodesRow.holds Tryd.pinned (OpenSpec.ofChange convEncodesWrong)

/-- 'roamlaw.ConvDecodes': WHATEVER THE INPUT: true; the input reads as it did. -/
def convDecodesSpec : ChangeSpec := { name := "convDecodes", fn := fun _ => fun
  | [d] => { results := [.lit (.bool true)], args := [d] }
  | _ => none }
def convDecodesRow : OpenClaim := { program := "ytfbjedcfppghgabdoor", sum := "3137ee40716b252900a561826b4d6dd255d43ad5e47e71c0aaea849a81f90a91", func := "roamwave/roamlaw.ConvDecodes", spec := "convDecodes", named := ["roamwave/conv.taps"], apart := false, laid := [("roamwave/conv.taps", laid_roamwave_conv_taps)] }
def ConvDecodesSaid : Prop := convDecodesRow.holds Tryd.pinned (OpenSpec.ofChange convDecodesSpec)

/-- ITS FALSE NEIGHBOUR: 'it returns false'. Refute it at one input. -/
def convDecodesWrong : ChangeSpec := { name := "convDecodes", fn := fun _ => fun
  | [d] => { results := [.lit (.bool false)], args := [d] }
  | _ => none }
def ConvDecodesWrongFalsely : Prop := convDecodesRow.holds Tryd.pinned (OpenSpec.ofChange convDecodesWrong)

/-- 'roamkeep.ConvBest': WHATEVER THE INPUT: true; the input reads as it did. -/
def convBestSpec : ChangeSpec := { name := "convBest", fn := fun _ => fun
  | [d1, d2] => { results := [.lit (.bool true)], args := [d1, d2] }
  | _ => none }
def convBestRow : OpenClaim := { program := "ytfbjedcfppghgabdoor", sum := "3137ee40716b252900a561826b4d6dd255d43ad5e47e71c0aaea849a81f90a91", func := "roamwave/roamkeep.ConvBest", spec := "convBest", named := ["roamwave/conv.taps"], apart := false, laid := [("roamwave/conv.taps", laid_roamwave_conv_taps)] }
def ConvBestSaid : Prop := convBestRow.holds Tryd.pinned (OpenSpec.ofChange convBestSpec)

/-- ITS FALSE NEIGHBOUR: 'it returns false'. Refute it at one input. -/
def convBestWrong : ChangeSpec := { name := "convBest", fn := fun _ => fun
  | [d1, d2] => { results := [.lit (.bool false)], args := [d1, d2] }
  | _ => none }
def ConvBestWrongFalsely : Prop := convBestRow.holds Tryd.pinned (OpenSpec.ofChange convBestWrong)

/-- 'roamkeep.ConvBack': WHATEVER THE INPUT: true; the input reads as it did. -/
def convBackSpec : ChangeSpec := { name := "convBack", fn := fun _ => fun
  | [d1, d2] => { results := [.lit (.bool true)], args := [d1, d2] }
  | _ => none }
def convBackRow : OpenClaim := { program := "ytfbjedcfppghgabdoor", sum := "3137ee40716b252900a561826b4d6dd255d43ad5e47e71c0aaea849a81f90a91", func := "roamwave/roamkeep.ConvBack", spec := "convBack", named := ["roamwave/conv.taps"], apart := false, laid := [("roamwave/conv.taps", laid_roamwave_conv_taps)] }
def ConvBackSaid : Prop := convBackRow.holds Tryd.pinned (OpenSpec.ofChange convBackSpec)

/-- ITS FALSE NEIGHBOUR: 'it returns false'. Refute it at one input. -/
def convBackWrong : ChangeSpec := { name := "convBack", fn := fun _ => fun
  | [d1, d2] => { results := [.lit (.bool false)], args := [d1, d2] }
  | _ => none }
def ConvBackWrongFalsely : Prop := convBackRow.holds Tryd.pinned (OpenSpec.ofChange convBackWrong)

/-- 'roamlaw.PolarSays': WHATEVER THE INPUT: true; the input reads as it did. -/
def polarSaysSpec : ChangeSpec := { name := "polarSays", fn := fun _ => fun
  | [d1, d2, d3, d4] => { results := [.lit (.bool true)], args := [d1, d2, d3, d4] }
  | _ => none }
def polarSaysRow : OpenClaim := { program := "ytfbjedcfppghgabdoor", sum := "3137ee40716b252900a561826b4d6dd255d43ad5e47e71c0aaea849a81f90a91", func := "roamwave/roamlaw.PolarSays", spec := "polarSays", unfollowed := true, recurses := true, named := ["roamwave/polar.worths"], apart := false, laid := [("roamwave/polar.worths", laid_roamwave_polar_worths)] }
def PolarSaysSaid : Prop := polarSaysRow.holds Tryd.pinned (OpenSpec.ofChange polarSaysSpec)

/-- ITS FALSE NEIGHBOUR: 'it returns false'. Refute it at one input. -/
def polarSaysWrong : ChangeSpec := { name := "polarSays", fn := fun _ => fun
  | [d1, d2, d3, d4] => { results := [.lit (.bool false)], args := [d1, d2, d3, d4] }
  | _ => none }
def PolarSaysWrongFalsely : Prop := polarSaysRow.holds Tryd.pinned (OpenSpec.ofChange polarSaysWrong)

/- THE SECOND FORM. 'bulk': how many values and letters a reading holds, each counted each time it is reached (what is shared counts as often as it is met; a slice's spare places count too). A statement '..UptoSaid' is the law's where the arguments, and the package variables that the reading takes, are together of bulk at most 1048576: NARROWER than '..Said'. Prove '..Said' where nothing that the law and all that it calls make is longer than what came in: it says more and counts as full. Else prove '..UptoSaid'. A law counts once. -/
mutual
def uptoBulk {H : Type} : DataW H → Nat
  | .lit (.string bytes) => bytes.length + 1
  | .lit _ => 1
  | .nil => 1
  | .ptr d => uptoBulk d + 1
  | .slice elems spare => uptoBulkAll elems + uptoBulkAll spare + 1
  | .agg parts => uptoBulkAll parts + 1
  | .iface _ d => uptoBulk d + 1
  | .map entries => uptoBulkEntries entries + 1
  | .held _ => 1
def uptoBulkAll {H : Type} : List (DataW H) → Nat
  | [] => 0
  | d :: r => uptoBulk d + uptoBulkAll r
def uptoBulkEntries {H : Type} : List (Lit × DataW H) → Nat
  | [] => 0
  | x :: r => uptoBulkEntry x + uptoBulkEntries r
def uptoBulkEntry {H : Type} : Lit × DataW H → Nat
  | (.string bytes, d) => bytes.length + uptoBulk d + 1
  | (_, d) => uptoBulk d + 1
 end
def uptoSmall : (H : Type) → List (DataW H) → Bool := fun _ ds => decide (uptoBulkAll ds ≤ 1048576)
def OpenSpec.upto (s : _root_.Go.ChangeSpec) : _root_.Go.OpenSpec := { _root_.Go.OpenSpec.ofChange s with cond := some uptoSmall }

/-- 'roamlaw.ConvEncodes', WHERE WHAT IT READS IS OF BULK AT MOST 1048576: true; the input reads as it did. -/
def convEncodesUptoRow : OpenClaim := { program := "ytfbjedcfppghgabdoor", sum := "3137ee40716b252900a561826b4d6dd255d43ad5e47e71c0aaea849a81f90a91", func := "roamwave/roamlaw.ConvEncodes", spec := "convEncodes", unfollowed := true, recurses := true, named := ["roamwave/conv.taps"], apart := false, laid := [("roamwave/conv.taps", laid_roamwave_conv_taps)], narrowed := true }
def ConvEncodesUptoSaid : Prop := convEncodesUptoRow.holds Tryd.pinned (OpenSpec.upto convEncodesSpec)

/-- 'roamlaw.ConvDecodes', WHERE WHAT IT READS IS OF BULK AT MOST 1048576: true; the input reads as it did. -/
def convDecodesUptoRow : OpenClaim := { program := "ytfbjedcfppghgabdoor", sum := "3137ee40716b252900a561826b4d6dd255d43ad5e47e71c0aaea849a81f90a91", func := "roamwave/roamlaw.ConvDecodes", spec := "convDecodes", named := ["roamwave/conv.taps"], apart := false, laid := [("roamwave/conv.taps", laid_roamwave_conv_taps)], narrowed := true }
def ConvDecodesUptoSaid : Prop := convDecodesUptoRow.holds Tryd.pinned (OpenSpec.upto convDecodesSpec)

/-- 'roamkeep.ConvBest', WHERE WHAT IT READS IS OF BULK AT MOST 1048576: true; the input reads as it did. -/
def convBestUptoRow : OpenClaim := { program := "ytfbjedcfppghgabdoor", sum := "3137ee40716b252900a561826b4d6dd255d43ad5e47e71c0aaea849a81f90a91", func := "roamwave/roamkeep.ConvBest", spec := "convBest", named := ["roamwave/conv.taps"], apart := false, laid := [("roamwave/conv.taps", laid_roamwave_conv_taps)], narrowed := true }
def ConvBestUptoSaid : Prop := convBestUptoRow.holds Tryd.pinned (OpenSpec.upto convBestSpec)

/-- 'roamkeep.ConvBack', WHERE WHAT IT READS IS OF BULK AT MOST 1048576: true; the input reads as it did. -/
def convBackUptoRow : OpenClaim := { program := "ytfbjedcfppghgabdoor", sum := "3137ee40716b252900a561826b4d6dd255d43ad5e47e71c0aaea849a81f90a91", func := "roamwave/roamkeep.ConvBack", spec := "convBack", named := ["roamwave/conv.taps"], apart := false, laid := [("roamwave/conv.taps", laid_roamwave_conv_taps)], narrowed := true }
def ConvBackUptoSaid : Prop := convBackUptoRow.holds Tryd.pinned (OpenSpec.upto convBackSpec)

/-- 'roamlaw.PolarSays', WHERE WHAT IT READS IS OF BULK AT MOST 1048576: true; the input reads as it did. -/
def polarSaysUptoRow : OpenClaim := { program := "ytfbjedcfppghgabdoor", sum := "3137ee40716b252900a561826b4d6dd255d43ad5e47e71c0aaea849a81f90a91", func := "roamwave/roamlaw.PolarSays", spec := "polarSays", unfollowed := true, recurses := true, named := ["roamwave/polar.worths"], apart := false, laid := [("roamwave/polar.worths", laid_roamwave_polar_worths)], narrowed := true }
def PolarSaysUptoSaid : Prop := polarSaysUptoRow.holds Tryd.pinned (OpenSpec.upto polarSaysSpec)

end Rows
end Go.Proofs.YtfbjedcfppghgabDoor
