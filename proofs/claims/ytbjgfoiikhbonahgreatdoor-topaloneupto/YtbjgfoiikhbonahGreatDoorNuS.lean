import Derived.Test.YtbjgfoiikhbonahGreatDoorTie
import Derived.Test.YtbjgfoiikhbonahGreatDoorCards
import Derived.JoinedCond
import Derived.SevenTiedAt
import Derived.WalkKit
import Derived.ProofKit
namespace Go.Proofs.YtbjgfoiikhbonahGreatDoor.topAlone

/-! The row's closed facts, one by one: together they would take more memory than there is. -/

set_option maxHeartbeats 20000000 in
set_option maxRecDepth 100000 in
theorem closed : joinedFacts Tryz.pinned.checked.prog 4 Tryz.f4 (Rows.OpenSpec.upto Rows.topAloneSpec).bare Rows.topAloneUptoRow = true := by
  unfold joinedFacts
  repeat' with_reducible refine Bool.and_eq_true_iff.2 ⟨?_, ?_⟩
  all_goals as_aux_lemma => kernel_rfl
end Go.Proofs.YtbjgfoiikhbonahGreatDoor.topAlone
