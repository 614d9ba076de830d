import Derived.Test.YtbmdjfolfmgmmagDiv
namespace Go.Proofs.Ytbmdjfolfmgmmag
open Go.ChangeShapes Go.WideShapes Go.ChangeAt Go.RowKit

set_option maxHeartbeats 1000000 in
theorem rdivisor_yes (k : Int) (w : World) (h : isKind k = true) :
    Calls Try.prog 55 #[.int .i64 k] w fun e w' => e = .returned (.slice (some ⟨w.heap.size, 0, none⟩) (kD k).length (kD k).length) ∧ w'.heap[w.heap.size]? = some (.cells ((kD k).map (Value.int .i64)).toArray 3 (0, 0)) ∧ Below w.heap.size w w' := by
  rcases kind_cases h with rfl | rfl | rfl | rfl
  all_goals
    clear h
    go_enter Try.func55, Try.ntmps55
    go_wp2
    go_ret
    exact ⟨rfl, heap_alloc_new w _, (Below.refl _ _).alloc (Nat.le_refl _) _⟩

set_option maxHeartbeats 1000000 in
theorem rdivisor_no (k : Int) (w : World) (h : isKind k = false) :
    Calls Try.prog 55 #[.int .i64 k] w fun e w' => e = .returned (.slice none 0 0) ∧ w = w' := by
  have h' : ¬ (0 ≤ k ∧ k ≤ 3) := by simpa [isKind] using h
  have h0 : (k == 0) = false := by simp; omega
  have h1 : (k == 1) = false := by simp; omega
  have h2 : (k == 2) = false := by simp; omega
  have h3 : (k == 3) = false := by simp; omega
  clear h h'
  go_enter Try.func55, Try.ntmps55
  go_wp2
  go_ret
  exact ⟨rfl, rfl⟩
end Go.Proofs.Ytbmdjfolfmgmmag
