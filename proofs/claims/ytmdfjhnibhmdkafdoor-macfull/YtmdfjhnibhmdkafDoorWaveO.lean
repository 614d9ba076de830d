import Derived.Test.YtmdfjhnibhmdkafDoorMixed
import Derived.Test.YtmdfjhnibhmdkafDoorQuietL
namespace Go.Proofs.YtmdfjhnibhmdkafDoor
open Go.ChangeShapes Go.WideShapes Go.ChangeAt Go.RowKit

/-! GUARDED OPERATIONS of a region that draws its order. -/

theorem wanted_of {ops : Array Oper} {o oj : Oper} {a : Act} {j s : Nat} {want : Bool} (hg : o.guard = some (j, want)) (hj : ops[j]? = some oj) (hd : oj.dst = some s) (hs : a.eval (.tmp s) = .bool want) : Region.wanted o (yielded ops a.tmps) = true := by
  have h2 : a.tmps.getD s undef = .bool want := hs
  have h3 : a.tmps[s]? = some (.bool want) := by
    by_cases h : s < a.tmps.size
    · simp [Array.getD, h] at h2
      simp [h, h2]
    · simp [Array.getD, h] at h2
      cases h2
  unfold Region.wanted yielded
  simp [hg, hj, hd, h3]
theorem op_valueG {P : Program} {ops : Array Oper} {Q : Exit → Act → World → Prop} {i : Nat} {o oj : Oper} {a : Act} {w w' : World} {v : Value} {K : Act → World → Prop} {j s : Nat} {want : Bool} (hi : ops[i]? = some o) (hg : o.guard = some (j, want)) (hj : ops[j]? = some oj) (hd : oj.dst = some s) (hs : a.eval (.tmp s) = .bool want)
    (hrun : (execOp a.eval o).run P w = .ok (.value v) w') (hK : K (a.put o.dst v) w') : wpOp P ops Q i K a w := by
  unfold wpOp
  rw [hi]
  have hw := wanted_of hg hj hd hs
  simp only [hw, if_true, Oper.wp]
  left
  rw [hrun]
  exact hK
theorem op_skipG {P : Program} {ops : Array Oper} {Q : Exit → Act → World → Prop} {i : Nat} {o oj : Oper} {a : Act} {w : World} {K : Act → World → Prop} {j s : Nat} {want : Bool} (hi : ops[i]? = some o) (hg : o.guard = some (j, want)) (hj : ops[j]? = some oj) (hd : oj.dst = some s) (hs : a.eval (.tmp s) = .bool (!want))
    (hK : K (a.put o.dst undef) w) : wpOp P ops Q i K a w := by
  have h2 : a.tmps.getD s undef = .bool (!want) := hs
  have h3 : a.tmps[s]? = some (.bool (!want)) := by
    by_cases h : s < a.tmps.size
    · simp [Array.getD, h] at h2
      simp [h, h2]
    · simp [Array.getD, h] at h2
      cases h2
  unfold wpOp
  rw [hi]
  have hw : Region.wanted o (yielded ops a.tmps) = false := by
    unfold Region.wanted yielded
    simp [hg, hj, hd, h3]
  simp only [hw]
  exact hK
theorem run_eqlI {ρ : Operand → Value} (w : World) {o : Oper} {x y : Operand} {p q : Int} (ho : o.op = .binOp .eql 3 x y 3) (h : ρ x = .int .i64 p) (h' : ρ y = .int .i64 q) : (execOp ρ o).run Tryd.prog w = .ok (.value (.bool (p == q))) w := by
  unfold execOp
  simp only [ho, h, h']
  simp [go_sem]
theorem run_gtrI {ρ : Operand → Value} (w : World) {o : Oper} {x y : Operand} {p q : Int} (ho : o.op = .binOp .gtr 3 x y 3) (h : ρ x = .int .i64 p) (h' : ρ y = .int .i64 q) : (execOp ρ o).run Tryd.prog w = .ok (.value (.bool (decide (q < p)))) w := by
  unfold execOp
  simp only [ho, h, h']
  simp [go_sem]
theorem run_eqlB {ρ : Operand → Value} (w : World) {o : Oper} {x y : Operand} {p q : Int} (ho : o.op = .binOp .eql 5 x y 5) (h : ρ x = .int .u8 p) (h' : ρ y = .int .u8 q) : (execOp ρ o).run Tryd.prog w = .ok (.value (.bool (p == q))) w := by
  unfold execOp
  simp only [ho, h, h']
  simp [go_sem]
theorem run_neqT {ρ : Operand → Value} (w : World) {o : Oper} {x y : Operand} {p q : Bool} (ho : o.op = .binOp .neq 4 x y 4) (h : ρ x = .bool p) (h' : ρ y = .bool q) : (execOp ρ o).run Tryd.prog w = .ok (.value (.bool (p != q))) w := by
  unfold execOp
  simp only [ho, h, h']
  simp [go_sem]
  cases p <;> cases q <;> rfl
theorem run_pickQ {ρ : Operand → Value} {P : Program} (w : World) {o : Oper} {x y z : Operand} {g : Bool} {v : Value} (ho : o.op = .pick x y z) (h : ρ x = .bool g) (h' : (if g then ρ y else ρ z) = v) : (execOp ρ o).run P w = .ok (.value v) w := by
  unfold execOp
  subst h'
  cases g
  · simp only [ho, h]
    simp [go_sem]
  · simp only [ho, h]
    simp [go_sem]
end Go.Proofs.YtmdfjhnibhmdkafDoor
