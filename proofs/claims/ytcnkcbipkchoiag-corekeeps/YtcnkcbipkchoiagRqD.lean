import Derived.Test.YtcnkcbipkchoiagRqC
namespace Go.Proofs.Ytcnkcbipkchoiag
open Go.ChangeShapes Go.WideShapes Go.ChangeAt Go.RowKit

/-! THE LAW RepeatOnce: rounds without loss. -/

theorem emp_falseR {s : ByteArray} (h : s.size ≠ 0) : s.toList.isEmpty = false := by
  rw [ByteArray.toList_eq]
  cases hq : s.data.toList with
  | nil =>
    have e : s.data.toList.length = s.size := by rw [Array.length_toList]; rfl
    rw [hq] at e
    simp at e
    omega
  | cons x l => rfl
theorem piece_new (w : World) (x : PieceM) : (w.alloc (.cells #[.int .i64 x.num, .int .i64 x.frm, .bool x.last, .string x.data] 100)).cell? ⟨w.heap.size, 0, none⟩ = some (.int .i64 x.num) ∧ (w.alloc (.cells #[.int .i64 x.num, .int .i64 x.frm, .bool x.last, .string x.data] 100)).cell? ⟨w.heap.size, 1, none⟩ = some (.int .i64 x.frm) ∧ (w.alloc (.cells #[.int .i64 x.num, .int .i64 x.frm, .bool x.last, .string x.data] 100)).cell? ⟨w.heap.size, 2, none⟩ = some (.bool x.last) ∧ (w.alloc (.cells #[.int .i64 x.num, .int .i64 x.frm, .bool x.last, .string x.data] 100)).cell? ⟨w.heap.size, 3, none⟩ = some (.string x.data) := by
  have hnew := heap_alloc_new w (.cells #[.int .i64 x.num, .int .i64 x.frm, .bool x.last, .string x.data] 100)
  refine ⟨?_, ?_, ?_, ?_⟩ <;> rw [cell_of_row _ _ _ _ _ _ hnew] <;> rfl

end Go.Proofs.Ytcnkcbipkchoiag
