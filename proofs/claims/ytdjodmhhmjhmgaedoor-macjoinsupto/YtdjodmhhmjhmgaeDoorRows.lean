/-
  NARROWER THAN 'FOR EVERY INPUT', by the rows' own cells (each row's printed sentence says how): HarqSends: laid · HarqOnce: laid · MacJoins: laid.
  DERIVED. THE GIVEN ROWS OF THIS SEAT. 3 by the template 'for every input the law returns true; each argument reads behind the call as it read before'; 0 by the template 'total and deterministic' (their statements: YtdjodmhhmjhmgaeDoorTotals.lean).
  GIVEN WITH THE SEED: the statements are not yours to turn. If you find one false, say at which input.
  Laid BY PROGRAM, IN A SANDBOX (cutbox-rows.mjs): the forced cells as the released guide's own fill.sh prints them over the translation 3f03a725e22f2b0c… (all of the seat's roots in one cut). By AI agents, Wed Nov 11 2026. No macro, syntax, notation, axiom, sorry.
-/
import Derived.Test.YtdjodmhhmjhmgaeDoorChecked
import GoSem.PinnedTables
import GoSem.Claim
import GoSem.ClaimJoined
import GoSem.ClaimMapViews
import Derived.JoinedTies
import Derived.KernelRfl
namespace Go.Proofs.YtdjodmhhmjhmgaeDoor
/- THE CELL 'sum', in the pinned program and in every row, IS THE sha256 OF THE DUMP (.gsa) THAT YtdjodmhhmjhmgaeDoorProg.lean LOADS. Nothing in Lean hashes anything: it is a label: what it is worth is what the hold of that sum in a sandbox is worth. -/
noncomputable def Tryd.pinned : Pinned := { name := "ytdjodmhhmjhmgaedoor", sum := "3f03a725e22f2b0c34625d55aa6b8021faa361f5d4c3f98c7ae90059356032a9", checked := Tryd.checked }
namespace Rows
def none {H : Type} : Left H := { results := [], args := [] }

/- WHAT THE LISTED PACKAGE-LEVEL VARIABLES READ AS WHEN THE CALL BEGINS. Each datum BY PROGRAM (the guide's laid-datum.mjs) off the statement by which the dump's own 'gosem.cut.vars' lays the variable. In a bare row this is a premise. The card (YtdjodmhhmjhmgaeDoorCards.lean) ties it to the program's text. -/
def laid_roamwave_harq_versions {H : Type} : DataW H := .agg [.lit (.int .i64 0), .lit (.int .i64 2), .lit (.int .i64 3), .lit (.int .i64 1)]
def laid_unicode_utf8_acceptRanges {H : Type} : DataW H := .agg [.agg [.lit (.int .u8 128), .lit (.int .u8 191)], .agg [.lit (.int .u8 160), .lit (.int .u8 191)], .agg [.lit (.int .u8 128), .lit (.int .u8 159)], .agg [.lit (.int .u8 144), .lit (.int .u8 191)], .agg [.lit (.int .u8 128), .lit (.int .u8 143)], .agg [.lit (.int .u8 0), .lit (.int .u8 0)], .agg [.lit (.int .u8 0), .lit (.int .u8 0)], .agg [.lit (.int .u8 0), .lit (.int .u8 0)], .agg [.lit (.int .u8 0), .lit (.int .u8 0)], .agg [.lit (.int .u8 0), .lit (.int .u8 0)], .agg [.lit (.int .u8 0), .lit (.int .u8 0)], .agg [.lit (.int .u8 0), .lit (.int .u8 0)], .agg [.lit (.int .u8 0), .lit (.int .u8 0)], .agg [.lit (.int .u8 0), .lit (.int .u8 0)], .agg [.lit (.int .u8 0), .lit (.int .u8 0)], .agg [.lit (.int .u8 0), .lit (.int .u8 0)]]
/-- One of Go's own tables, pinned by name: the form's constant. -/
def laid_unicode_utf8_first : DataW Unit := Go.Pinned.utf8First

/-- 'roamlaw.HarqSends': WHATEVER THE INPUT: true; the input reads as it did. -/
def harqSendsSpec : ChangeSpec := { name := "harqSends", fn := fun _ => fun
  | [d1, d2] => { results := [.lit (.bool true)], args := [d1, d2] }
  | _ => none }
def harqSendsRow : OpenClaim := { program := "ytdjodmhhmjhmgaedoor", sum := "3f03a725e22f2b0c34625d55aa6b8021faa361f5d4c3f98c7ae90059356032a9", func := "roamwave/roamlaw.HarqSends", spec := "harqSends", named := ["roamwave/harq.versions"], apart := false, laid := [("roamwave/harq.versions", laid_roamwave_harq_versions)] }
def HarqSendsSaid : Prop := harqSendsRow.holds Tryd.pinned (OpenSpec.ofChange harqSendsSpec)

/-- ITS FALSE NEIGHBOUR: 'it returns false'. Refute it at one input. -/
def harqSendsWrong : ChangeSpec := { name := "harqSends", fn := fun _ => fun
  | [d1, d2] => { results := [.lit (.bool false)], args := [d1, d2] }
  | _ => none }
def HarqSendsWrongFalsely : Prop := harqSendsRow.holds Tryd.pinned (OpenSpec.ofChange harqSendsWrong)

/-- 'roamkeep.HarqOnce': WHATEVER THE INPUT: true; the input reads as it did. -/
def harqOnceSpec : ChangeSpec := { name := "harqOnce", fn := fun _ => fun
  | [d1, d2] => { results := [.lit (.bool true)], args := [d1, d2] }
  | _ => none }
def harqOnceRow : OpenClaim := { program := "ytdjodmhhmjhmgaedoor", sum := "3f03a725e22f2b0c34625d55aa6b8021faa361f5d4c3f98c7ae90059356032a9", func := "roamwave/roamkeep.HarqOnce", spec := "harqOnce", named := ["roamwave/harq.versions"], apart := false, laid := [("roamwave/harq.versions", laid_roamwave_harq_versions)] }
def HarqOnceSaid : Prop := harqOnceRow.holds Tryd.pinned (OpenSpec.ofChange harqOnceSpec)

/-- ITS FALSE NEIGHBOUR: 'it returns false'. Refute it at one input. -/
def harqOnceWrong : ChangeSpec := { name := "harqOnce", fn := fun _ => fun
  | [d1, d2] => { results := [.lit (.bool false)], args := [d1, d2] }
  | _ => none }
def HarqOnceWrongFalsely : Prop := harqOnceRow.holds Tryd.pinned (OpenSpec.ofChange harqOnceWrong)

/-- 'roamlaw.MacJoins': WHATEVER THE INPUT: true; the input reads as it did. -/
def macJoinsSpec : ChangeSpec := { name := "macJoins", fn := fun _ => fun
  | [d1, d2, d3] => { results := [.lit (.bool true)], args := [d1, d2, d3] }
  | _ => none }
def macJoinsRow : OpenClaim := { program := "ytdjodmhhmjhmgaedoor", sum := "3f03a725e22f2b0c34625d55aa6b8021faa361f5d4c3f98c7ae90059356032a9", func := "roamwave/roamlaw.MacJoins", spec := "macJoins", inPlace := ["internal/bytealg.IndexByteString", "internal/bytealg.IndexString"], named := ["unicode/utf8.first", "unicode/utf8.acceptRanges", "internal/bytealg.MaxLen"], apart := false, laid := [("unicode/utf8.acceptRanges", laid_unicode_utf8_acceptRanges), ("unicode/utf8.first", laid_unicode_utf8_first)] }
def MacJoinsSaid : Prop := macJoinsRow.holds Tryd.pinned (OpenSpec.ofChange macJoinsSpec)

/-- ITS FALSE NEIGHBOUR: 'it returns false'. Refute it at one input. -/
def macJoinsWrong : ChangeSpec := { name := "macJoins", fn := fun _ => fun
  | [d1, d2, d3] => { results := [.lit (.bool false)], args := [d1, d2, d3] }
  | _ => none }
def MacJoinsWrongFalsely : Prop := macJoinsRow.holds Tryd.pinned (OpenSpec.ofChange macJoinsWrong)

/- THE SECOND FORM. 'bulk': how many values and letters a reading holds, each counted each time it is reached (what is shared counts as often as it is met; a slice's spare places count too). A statement '..UptoSaid' is the law's where the arguments, and the package variables that the reading takes, are together of bulk at most 1048576: NARROWER than '..Said'. Prove '..Said' where nothing that the law and all that it calls make is longer than what came in: it says more and counts as full. Else prove '..UptoSaid'. A law counts once. -/
mutual
def uptoBulk {H : Type} : DataW H → Nat
  | .lit (.string bytes) => bytes.length + 1
  | .lit _ => 1
  | .nil => 1
  | .ptr d => uptoBulk d + 1
  | .slice elems spare => uptoBulkAll elems + uptoBulkAll spare + 1
  | .agg parts => uptoBulkAll parts + 1
  | .iface _ d => uptoBulk d + 1
  | .map entries => uptoBulkEntries entries + 1
  | .held _ => 1
def uptoBulkAll {H : Type} : List (DataW H) → Nat
  | [] => 0
  | d :: r => uptoBulk d + uptoBulkAll r
def uptoBulkEntries {H : Type} : List (Lit × DataW H) → Nat
  | [] => 0
  | x :: r => uptoBulkEntry x + uptoBulkEntries r
def uptoBulkEntry {H : Type} : Lit × DataW H → Nat
  | (.string bytes, d) => bytes.length + uptoBulk d + 1
  | (_, d) => uptoBulk d + 1
 end
def uptoSmall : (H : Type) → List (DataW H) → Bool := fun _ ds => decide (uptoBulkAll ds ≤ 1048576)
def OpenSpec.upto (s : _root_.Go.ChangeSpec) : _root_.Go.OpenSpec := { _root_.Go.OpenSpec.ofChange s with cond := some uptoSmall }

/-- 'roamlaw.HarqSends', WHERE WHAT IT READS IS OF BULK AT MOST 1048576: true; the input reads as it did. -/
def harqSendsUptoRow : OpenClaim := { program := "ytdjodmhhmjhmgaedoor", sum := "3f03a725e22f2b0c34625d55aa6b8021faa361f5d4c3f98c7ae90059356032a9", func := "roamwave/roamlaw.HarqSends", spec := "harqSends", named := ["roamwave/harq.versions"], apart := false, laid := [("roamwave/harq.versions", laid_roamwave_harq_versions)], narrowed := true }
def HarqSendsUptoSaid : Prop := harqSendsUptoRow.holds Tryd.pinned (OpenSpec.upto harqSendsSpec)

/-- 'roamkeep.HarqOnce', WHERE WHAT IT READS IS OF BULK AT MOST 1048576: true; the input reads as it did. -/
def harqOnceUptoRow : OpenClaim := { program := "ytdjodmhhmjhmgaedoor", sum := "3f03a725e22f2b0c34625d55aa6b8021faa361f5d4c3f98c7ae90059356032a9", func := "roamwave/roamkeep.HarqOnce", spec := "harqOnce", named := ["roamwave/harq.versions"], apart := false, laid := [("roamwave/harq.versions", laid_roamwave_harq_versions)], narrowed := true }
def HarqOnceUptoSaid : Prop := harqOnceUptoRow.holds Tryd.pinned (OpenSpec.upto harqOnceSpec)

/-- 'roamlaw.MacJoins', WHERE WHAT IT READS IS OF BULK AT MOST 1048576: true; the input reads as it did. -/
def macJoinsUptoRow : OpenClaim := { program := "ytdjodmhhmjhmgaedoor", sum := "3f03a725e22f2b0c34625d55aa6b8021faa361f5d4c3f98c7ae90059356032a9", func := "roamwave/roamlaw.MacJoins", spec := "macJoins", inPlace := ["internal/bytealg.IndexByteString", "internal/bytealg.IndexString"], named := ["unicode/utf8.first", "unicode/utf8.acceptRanges", "internal/bytealg.MaxLen"], apart := false, laid := [("unicode/utf8.acceptRanges", laid_unicode_utf8_acceptRanges), ("unicode/utf8.first", laid_unicode_utf8_first)], narrowed := true }
def MacJoinsUptoSaid : Prop := macJoinsUptoRow.holds Tryd.pinned (OpenSpec.upto macJoinsSpec)

end Rows
end Go.Proofs.YtdjodmhhmjhmgaeDoor
