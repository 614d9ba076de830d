/-
  No cell of these rows narrows 'for every input' (looked for: loops, veiled, ifaces, maps, wideKeys, modest, calm, conditions, laid).
  DERIVED. THE GIVEN ROWS OF THIS SEAT. 3 by the template 'for every input the law returns true; each argument reads behind the call as it read before'; 0 by the template 'total and deterministic' (their statements: YtjpohfghibhkiadTotals.lean).
  GIVEN WITH THE SEED: the statements are not yours to turn. If you find one false, say at which input.
  Laid BY PROGRAM, IN A SANDBOX (cutbox-rows.mjs): the forced cells as the released guide's own fill.sh prints them over the translation d320023e5507e8cf… (all of the seat's roots in one cut). By AI agents, Wed Nov 11 2026. No macro, syntax, notation, axiom, sorry.
-/
import Derived.Test.YtjpohfghibhkiadChecked
import GoSem.Claim
import GoSem.ClaimJoined
import GoSem.ClaimMapViews
import Derived.JoinedTies
import Derived.KernelRfl
namespace Go.Proofs.Ytjpohfghibhkiad
/- THE CELL 'sum', in the pinned program and in every row, IS THE sha256 OF THE DUMP (.gsa) THAT YtjpohfghibhkiadProg.lean LOADS. Nothing in Lean hashes anything: it is a label: what it is worth is what the hold of that sum in a sandbox is worth. -/
noncomputable def Try.pinned : Pinned := { name := "ytjpohfghibhkiad", sum := "d320023e5507e8cfd0231f54aa0f97653e515dc1e1b87b032c71567250823c30", checked := Try.checked }
namespace Rows
def none {H : Type} : Left H := { results := [], args := [] }

/-- 'roamlaw.GridSays': WHATEVER THE INPUT: true; the input reads as it did. -/
def gridSaysSpec : ChangeSpec := { name := "gridSays", fn := fun _ => fun
  | [d1, d2, d3, d4] => { results := [.lit (.bool true)], args := [d1, d2, d3, d4] }
  | _ => none }
def gridSaysRow : OpenClaim := { program := "ytjpohfghibhkiad", sum := "d320023e5507e8cfd0231f54aa0f97653e515dc1e1b87b032c71567250823c30", func := "roamwave/roamlaw.GridSays", spec := "gridSays", plainKeys := false, apart := false }
def GridSaysSaid : Prop := gridSaysRow.holds Try.pinned (OpenSpec.ofChange gridSaysSpec)

/-- ITS FALSE NEIGHBOUR: 'it returns false'. Refute it at one input. -/
def gridSaysWrong : ChangeSpec := { name := "gridSays", fn := fun _ => fun
  | [d1, d2, d3, d4] => { results := [.lit (.bool false)], args := [d1, d2, d3, d4] }
  | _ => none }
def GridSaysWrongFalsely : Prop := gridSaysRow.holds Try.pinned (OpenSpec.ofChange gridSaysWrong)

/-- 'roamkeep.GridOnce': WHATEVER THE INPUT: true; the input reads as it did. -/
def gridOnceSpec : ChangeSpec := { name := "gridOnce", fn := fun _ => fun
  | [d1, d2] => { results := [.lit (.bool true)], args := [d1, d2] }
  | _ => none }
def gridOnceRow : OpenClaim := { program := "ytjpohfghibhkiad", sum := "d320023e5507e8cfd0231f54aa0f97653e515dc1e1b87b032c71567250823c30", func := "roamwave/roamkeep.GridOnce", spec := "gridOnce", plainKeys := false, apart := false }
def GridOnceSaid : Prop := gridOnceRow.holds Try.pinned (OpenSpec.ofChange gridOnceSpec)

/-- ITS FALSE NEIGHBOUR: 'it returns false'. Refute it at one input. -/
def gridOnceWrong : ChangeSpec := { name := "gridOnce", fn := fun _ => fun
  | [d1, d2] => { results := [.lit (.bool false)], args := [d1, d2] }
  | _ => none }
def GridOnceWrongFalsely : Prop := gridOnceRow.holds Try.pinned (OpenSpec.ofChange gridOnceWrong)

/-- 'roamkeep.GridMemory': WHATEVER THE INPUT: true; the input reads as it did. -/
def gridMemorySpec : ChangeSpec := { name := "gridMemory", fn := fun _ => fun
  | [d1, d2] => { results := [.lit (.bool true)], args := [d1, d2] }
  | _ => none }
def gridMemoryRow : OpenClaim := { program := "ytjpohfghibhkiad", sum := "d320023e5507e8cfd0231f54aa0f97653e515dc1e1b87b032c71567250823c30", func := "roamwave/roamkeep.GridMemory", spec := "gridMemory", plainKeys := false, apart := false }
def GridMemorySaid : Prop := gridMemoryRow.holds Try.pinned (OpenSpec.ofChange gridMemorySpec)

/-- ITS FALSE NEIGHBOUR: 'it returns false'. Refute it at one input. -/
def gridMemoryWrong : ChangeSpec := { name := "gridMemory", fn := fun _ => fun
  | [d1, d2] => { results := [.lit (.bool false)], args := [d1, d2] }
  | _ => none }
def GridMemoryWrongFalsely : Prop := gridMemoryRow.holds Try.pinned (OpenSpec.ofChange gridMemoryWrong)

/- THE SECOND FORM. 'bulk': how many values and letters a reading holds, each counted each time it is reached (what is shared counts as often as it is met; a slice's spare places count too). A statement '..UptoSaid' is the law's where the arguments, and the package variables that the reading takes, are together of bulk at most 1048576: NARROWER than '..Said'. Prove '..Said' where nothing that the law and all that it calls make is longer than what came in: it says more and counts as full. Else prove '..UptoSaid'. A law counts once. -/
mutual
def uptoBulk {H : Type} : DataW H → Nat
  | .lit (.string bytes) => bytes.length + 1
  | .lit _ => 1
  | .nil => 1
  | .ptr d => uptoBulk d + 1
  | .slice elems spare => uptoBulkAll elems + uptoBulkAll spare + 1
  | .agg parts => uptoBulkAll parts + 1
  | .iface _ d => uptoBulk d + 1
  | .map entries => uptoBulkEntries entries + 1
  | .held _ => 1
def uptoBulkAll {H : Type} : List (DataW H) → Nat
  | [] => 0
  | d :: r => uptoBulk d + uptoBulkAll r
def uptoBulkEntries {H : Type} : List (Lit × DataW H) → Nat
  | [] => 0
  | x :: r => uptoBulkEntry x + uptoBulkEntries r
def uptoBulkEntry {H : Type} : Lit × DataW H → Nat
  | (.string bytes, d) => bytes.length + uptoBulk d + 1
  | (_, d) => uptoBulk d + 1
 end
def uptoSmall : (H : Type) → List (DataW H) → Bool := fun _ ds => decide (uptoBulkAll ds ≤ 1048576)
def OpenSpec.upto (s : _root_.Go.ChangeSpec) : _root_.Go.OpenSpec := { _root_.Go.OpenSpec.ofChange s with cond := some uptoSmall }

/-- 'roamlaw.GridSays', WHERE WHAT IT READS IS OF BULK AT MOST 1048576: true; the input reads as it did. -/
def gridSaysUptoRow : OpenClaim := { program := "ytjpohfghibhkiad", sum := "d320023e5507e8cfd0231f54aa0f97653e515dc1e1b87b032c71567250823c30", func := "roamwave/roamlaw.GridSays", spec := "gridSays", plainKeys := false, apart := false, narrowed := true }
def GridSaysUptoSaid : Prop := gridSaysUptoRow.holds Try.pinned (OpenSpec.upto gridSaysSpec)

/-- 'roamkeep.GridOnce', WHERE WHAT IT READS IS OF BULK AT MOST 1048576: true; the input reads as it did. -/
def gridOnceUptoRow : OpenClaim := { program := "ytjpohfghibhkiad", sum := "d320023e5507e8cfd0231f54aa0f97653e515dc1e1b87b032c71567250823c30", func := "roamwave/roamkeep.GridOnce", spec := "gridOnce", plainKeys := false, apart := false, narrowed := true }
def GridOnceUptoSaid : Prop := gridOnceUptoRow.holds Try.pinned (OpenSpec.upto gridOnceSpec)

/-- 'roamkeep.GridMemory', WHERE WHAT IT READS IS OF BULK AT MOST 1048576: true; the input reads as it did. -/
def gridMemoryUptoRow : OpenClaim := { program := "ytjpohfghibhkiad", sum := "d320023e5507e8cfd0231f54aa0f97653e515dc1e1b87b032c71567250823c30", func := "roamwave/roamkeep.GridMemory", spec := "gridMemory", plainKeys := false, apart := false, narrowed := true }
def GridMemoryUptoSaid : Prop := gridMemoryUptoRow.holds Try.pinned (OpenSpec.upto gridMemorySpec)

end Rows
end Go.Proofs.Ytjpohfghibhkiad
