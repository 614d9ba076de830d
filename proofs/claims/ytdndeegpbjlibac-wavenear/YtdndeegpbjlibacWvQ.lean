import Derived.Test.YtdndeegpbjlibacWvB
import Derived.Test.YtdndeegpbjlibacWvG
namespace Go.Proofs.Ytdndeegpbjlibac
open Go.ChangeShapes Go.WideShapes Go.ChangeAt Go.RowKit Go.Shelf

/-! SINGLE OPERATIONS of Near. -/

theorem run_shrN {ρ : Operand → Value} (w : World) {o : Oper} {x y : Operand} {I pl : Nat} (ho : o.op = .binOp .shr 3 x y 3) (h : ρ x = .int .i64 I) (h' : ρ y = .int .i64 pl) (hp : pl < 64) : (execOp ρ o).run Try.prog w = .ok (.value (.int .i64 ((I : Int) / 2 ^ pl))) w := by
  unfold execOp
  simp only [ho, h, h']
  simp [go_sem]
theorem run_and1 {ρ : Operand → Value} (w : World) {o : Oper} {x y : Operand} {I pl : Nat} (ho : o.op = .binOp .and 3 x y 3) (h : ρ x = .int .i64 ((I : Int) / 2 ^ pl)) (h' : ρ y = .int .i64 1) (hI : I < 8) : (execOp ρ o).run Try.prog w = .ok (.value (.int .i64 (bitN I pl))) w := by
  unfold execOp
  simp only [ho, h, h']
  simp [go_sem, and1_at I pl hI]
theorem run_convQ {ρ : Operand → Value} (w : World) {o : Oper} {x : Operand} {I pl : Nat} (ho : o.op = .convert 3 5 x) (h : ρ x = .int .i64 (bitN I pl)) : (execOp ρ o).run Try.prog w = .ok (.value (.int .u8 (bitN I pl))) w := by
  have hb := bitN_or I pl
  unfold execOp
  simp only [ho, h]
  rcases hb with e | e <;> rw [e] <;> simp [go_sem, convert] <;> rfl
theorem run_build2B {ρ : Operand → Value} (w : World) {o : Oper} {x y : Operand} {p q : Int} (ho : o.op = .buildSlice 22 2 #[(0, x), (1, y)]) (h : ρ x = .int .u8 p) (h' : ρ y = .int .u8 q) : (execOp ρ o).run Try.prog w = .ok (.value (.slice (some ⟨w.heap.size, 0, none⟩) 2 2)) (w.alloc (.cells #[.int .u8 p, .int .u8 q] 5)) := by
  unfold execOp
  simp only [ho]
  simp [go_sem, h, h']
end Go.Proofs.Ytdndeegpbjlibac
