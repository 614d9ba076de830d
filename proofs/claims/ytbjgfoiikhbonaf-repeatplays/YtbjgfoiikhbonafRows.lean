/-
  No cell of these rows narrows 'for every input' (looked for: loops, veiled, ifaces, maps, wideKeys, modest, calm, conditions, laid).
  DERIVED. THE GIVEN ROWS OF THIS SEAT. 4 by the template 'for every input the law returns true; each argument reads behind the call as it read before'; 0 by the template 'total and deterministic' (their statements: YtbjgfoiikhbonafTotals.lean).
  GIVEN WITH THE SEED: the statements are not yours to turn. If you find one false, say at which input.
  Laid BY PROGRAM, IN A SANDBOX (cutbox-rows.mjs): the forced cells as the released guide's own fill.sh prints them over the translation 744518c1d41d921d… (all of the seat's roots in one cut). By AI agents, Wed Nov 11 2026. No macro, syntax, notation, axiom, sorry.
-/
import Derived.Test.YtbjgfoiikhbonafChecked
import GoSem.Claim
import GoSem.ClaimJoined
import GoSem.ClaimMapViews
import Derived.JoinedTies
import Derived.KernelRfl
namespace Go.Proofs.Ytbjgfoiikhbonaf
/- THE CELL 'sum', in the pinned program and in every row, IS THE sha256 OF THE DUMP (.gsa) THAT YtbjgfoiikhbonafProg.lean LOADS. Nothing in Lean hashes anything: it is a label: what it is worth is what the hold of that sum in a sandbox is worth. -/
noncomputable def Try.pinned : Pinned := { name := "ytbjgfoiikhbonaf", sum := "744518c1d41d921de9ccbe750166edf975ccaed4168bcd61d09744f5e800b913", checked := Try.checked }
namespace Rows
def none {H : Type} : Left H := { results := [], args := [] }

/-- 'roamlaw.TurnsSays': WHATEVER THE INPUT: true; the input reads as it did. -/
def turnsSaysSpec : ChangeSpec := { name := "turnsSays", fn := fun _ => fun
  | [d1, d2, d3] => { results := [.lit (.bool true)], args := [d1, d2, d3] }
  | _ => none }
def turnsSaysRow : OpenClaim := { program := "ytbjgfoiikhbonaf", sum := "744518c1d41d921de9ccbe750166edf975ccaed4168bcd61d09744f5e800b913", func := "roamwave/roamlaw.TurnsSays", spec := "turnsSays", apart := false }
def TurnsSaysSaid : Prop := turnsSaysRow.holds Try.pinned (OpenSpec.ofChange turnsSaysSpec)

/-- ITS FALSE NEIGHBOUR: 'it returns false'. Refute it at one input. -/
def turnsSaysWrong : ChangeSpec := { name := "turnsSays", fn := fun _ => fun
  | [d1, d2, d3] => { results := [.lit (.bool false)], args := [d1, d2, d3] }
  | _ => none }
def TurnsSaysWrongFalsely : Prop := turnsSaysRow.holds Try.pinned (OpenSpec.ofChange turnsSaysWrong)

/-- 'roamkeep.TurnsFair': WHATEVER THE INPUT: true; the input reads as it did. -/
def turnsFairSpec : ChangeSpec := { name := "turnsFair", fn := fun _ => fun
  | [d1, d2, d3] => { results := [.lit (.bool true)], args := [d1, d2, d3] }
  | _ => none }
def turnsFairRow : OpenClaim := { program := "ytbjgfoiikhbonaf", sum := "744518c1d41d921de9ccbe750166edf975ccaed4168bcd61d09744f5e800b913", func := "roamwave/roamkeep.TurnsFair", spec := "turnsFair", apart := false }
def TurnsFairSaid : Prop := turnsFairRow.holds Try.pinned (OpenSpec.ofChange turnsFairSpec)

/-- ITS FALSE NEIGHBOUR: 'it returns false'. Refute it at one input. -/
def turnsFairWrong : ChangeSpec := { name := "turnsFair", fn := fun _ => fun
  | [d1, d2, d3] => { results := [.lit (.bool false)], args := [d1, d2, d3] }
  | _ => none }
def TurnsFairWrongFalsely : Prop := turnsFairRow.holds Try.pinned (OpenSpec.ofChange turnsFairWrong)

/-- 'roamlaw.RepeatPlays': WHATEVER THE INPUT: true; the input reads as it did. -/
def repeatPlaysSpec : ChangeSpec := { name := "repeatPlays", fn := fun _ => fun
  | [d1, d2] => { results := [.lit (.bool true)], args := [d1, d2] }
  | _ => none }
def repeatPlaysRow : OpenClaim := { program := "ytbjgfoiikhbonaf", sum := "744518c1d41d921de9ccbe750166edf975ccaed4168bcd61d09744f5e800b913", func := "roamwave/roamlaw.RepeatPlays", spec := "repeatPlays", inPlace := ["slices.overlaps[roamwave/repeat.span]"], apart := false }
def RepeatPlaysSaid : Prop := repeatPlaysRow.holds Try.pinned (OpenSpec.ofChange repeatPlaysSpec)

/-- ITS FALSE NEIGHBOUR: 'it returns false'. Refute it at one input. -/
def repeatPlaysWrong : ChangeSpec := { name := "repeatPlays", fn := fun _ => fun
  | [d1, d2] => { results := [.lit (.bool false)], args := [d1, d2] }
  | _ => none }
def RepeatPlaysWrongFalsely : Prop := repeatPlaysRow.holds Try.pinned (OpenSpec.ofChange repeatPlaysWrong)

/-- 'roamkeep.RepeatOnce': WHATEVER THE INPUT: true; the input reads as it did. -/
def repeatOnceSpec : ChangeSpec := { name := "repeatOnce", fn := fun _ => fun
  | [d1, d2, d3] => { results := [.lit (.bool true)], args := [d1, d2, d3] }
  | _ => none }
def repeatOnceRow : OpenClaim := { program := "ytbjgfoiikhbonaf", sum := "744518c1d41d921de9ccbe750166edf975ccaed4168bcd61d09744f5e800b913", func := "roamwave/roamkeep.RepeatOnce", spec := "repeatOnce", inPlace := ["slices.overlaps[roamwave/repeat.span]"], unfollowed := true, recurses := true, apart := false }
def RepeatOnceSaid : Prop := repeatOnceRow.holds Try.pinned (OpenSpec.ofChange repeatOnceSpec)

/-- ITS FALSE NEIGHBOUR: 'it returns false'. Refute it at one input. -/
def repeatOnceWrong : ChangeSpec := { name := "repeatOnce", fn := fun _ => fun
  | [d1, d2, d3] => { results := [.lit (.bool false)], args := [d1, d2, d3] }
  | _ => none }
def RepeatOnceWrongFalsely : Prop := repeatOnceRow.holds Try.pinned (OpenSpec.ofChange repeatOnceWrong)

/- THE SECOND FORM. 'bulk': how many values and letters a reading holds, each counted each time it is reached (what is shared counts as often as it is met; a slice's spare places count too). A statement '..UptoSaid' is the law's where the arguments, and the package variables that the reading takes, are together of bulk at most 1048576: NARROWER than '..Said'. Prove '..Said' where nothing that the law and all that it calls make is longer than what came in: it says more and counts as full. Else prove '..UptoSaid'. A law counts once. -/
mutual
def uptoBulk {H : Type} : DataW H → Nat
  | .lit (.string bytes) => bytes.length + 1
  | .lit _ => 1
  | .nil => 1
  | .ptr d => uptoBulk d + 1
  | .slice elems spare => uptoBulkAll elems + uptoBulkAll spare + 1
  | .agg parts => uptoBulkAll parts + 1
  | .iface _ d => uptoBulk d + 1
  | .map entries => uptoBulkEntries entries + 1
  | .held _ => 1
def uptoBulkAll {H : Type} : List (DataW H) → Nat
  | [] => 0
  | d :: r => uptoBulk d + uptoBulkAll r
def uptoBulkEntries {H : Type} : List (Lit × DataW H) → Nat
  | [] => 0
  | x :: r => uptoBulkEntry x + uptoBulkEntries r
def uptoBulkEntry {H : Type} : Lit × DataW H → Nat
  | (.string bytes, d) => bytes.length + uptoBulk d + 1
  | (_, d) => uptoBulk d + 1
 end
def uptoSmall : (H : Type) → List (DataW H) → Bool := fun _ ds => decide (uptoBulkAll ds ≤ 1048576)
def OpenSpec.upto (s : _root_.Go.ChangeSpec) : _root_.Go.OpenSpec := { _root_.Go.OpenSpec.ofChange s with cond := some uptoSmall }

/-- 'roamlaw.TurnsSays', WHERE WHAT IT READS IS OF BULK AT MOST 1048576: true; the input reads as it did. -/
def turnsSaysUptoRow : OpenClaim := { program := "ytbjgfoiikhbonaf", sum := "744518c1d41d921de9ccbe750166edf975ccaed4168bcd61d09744f5e800b913", func := "roamwave/roamlaw.TurnsSays", spec := "turnsSays", apart := false, narrowed := true }
def TurnsSaysUptoSaid : Prop := turnsSaysUptoRow.holds Try.pinned (OpenSpec.upto turnsSaysSpec)

/-- 'roamkeep.TurnsFair', WHERE WHAT IT READS IS OF BULK AT MOST 1048576: true; the input reads as it did. -/
def turnsFairUptoRow : OpenClaim := { program := "ytbjgfoiikhbonaf", sum := "744518c1d41d921de9ccbe750166edf975ccaed4168bcd61d09744f5e800b913", func := "roamwave/roamkeep.TurnsFair", spec := "turnsFair", apart := false, narrowed := true }
def TurnsFairUptoSaid : Prop := turnsFairUptoRow.holds Try.pinned (OpenSpec.upto turnsFairSpec)

/-- 'roamlaw.RepeatPlays', WHERE WHAT IT READS IS OF BULK AT MOST 1048576: true; the input reads as it did. -/
def repeatPlaysUptoRow : OpenClaim := { program := "ytbjgfoiikhbonaf", sum := "744518c1d41d921de9ccbe750166edf975ccaed4168bcd61d09744f5e800b913", func := "roamwave/roamlaw.RepeatPlays", spec := "repeatPlays", inPlace := ["slices.overlaps[roamwave/repeat.span]"], apart := false, narrowed := true }
def RepeatPlaysUptoSaid : Prop := repeatPlaysUptoRow.holds Try.pinned (OpenSpec.upto repeatPlaysSpec)

/-- 'roamkeep.RepeatOnce', WHERE WHAT IT READS IS OF BULK AT MOST 1048576: true; the input reads as it did. -/
def repeatOnceUptoRow : OpenClaim := { program := "ytbjgfoiikhbonaf", sum := "744518c1d41d921de9ccbe750166edf975ccaed4168bcd61d09744f5e800b913", func := "roamwave/roamkeep.RepeatOnce", spec := "repeatOnce", inPlace := ["slices.overlaps[roamwave/repeat.span]"], unfollowed := true, recurses := true, apart := false, narrowed := true }
def RepeatOnceUptoSaid : Prop := repeatOnceUptoRow.holds Try.pinned (OpenSpec.upto repeatOnceSpec)

end Rows
end Go.Proofs.Ytbjgfoiikhbonaf
