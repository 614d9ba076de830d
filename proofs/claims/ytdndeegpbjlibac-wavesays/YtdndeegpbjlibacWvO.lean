import Derived.Test.YtdndeegpbjlibacQuietL
import Derived.Test.YtdndeegpbjlibacGrow
import Derived.Test.YtdndeegpbjlibacWaveP
import Derived.Test.YtdndeegpbjlibacInts
import Derived.Shelf.Abstract
namespace Go.Proofs.Ytdndeegpbjlibac
open Go.ChangeShapes Go.WideShapes Go.ChangeAt Go.RowKit Go.Shelf

/-! SINGLE OPERATIONS of the regions of package wave. -/

theorem grownBy_self (w : World) : w.grownBy w none := ⟨rfl, rfl, rfl, Nat.le_refl _, fun _ _ _ => rfl⟩
theorem op_skipQ {P : Program} {ops : Array Oper} {Q : Exit → Act → World → Prop} {i : Nat} {o : Oper} {a : Act} {w w' : World} {K : Act → World → Prop} (hi : ops[i]? = some o) (hg : o.guard = none)
    (hrun : (execOp a.eval o).run P w = .ok .skip w') (hK : K (a.put o.dst undef) w') : wpOp P ops Q i K a w := by
  unfold wpOp
  rw [hi]
  have hw : Region.wanted o (yielded ops a.tmps) = true := by simp [Region.wanted, hg]
  simp only [hw, if_true, Oper.wp]
  left
  rw [hrun]
  exact hK
theorem op_callN {ops : Array Oper} {Q : Exit → Act → World → Prop} {i f : Nat} {o : Oper} {a : Act} {w : World} {xs : Array Operand} {us : Array Value} {ts : Array TypeId} {K : Act → World → Prop} {R : Ending → World → Prop} (hi : ops[i]? = some o) (hg : o.guard = none) (hop : o.op = .call { callee := .value (.func f), args := xs, argTypes := ts })
    (he : Enters Try.prog f) (hx : xs.map a.eval = us) (hc : Calls Try.prog f us w R) (hR : ∀ e w', R e w' → ∃ r, e = .returned r ∧ K (a.put o.dst r) w') : wpOp Try.prog ops Q i K a w := by
  unfold wpOp
  rw [hi]
  have hw : Region.wanted o (yielded ops a.tmps) = true := by simp [Region.wanted, hg]
  simp only [hw, if_true, Oper.wp]
  left
  have hrun : (execOp a.eval o).run Try.prog w = .ok (.enter f us) w := by
    unfold execOp
    simp only [hop]
    have := he us w
    have hfn : a.eval (.func f) = .func (.func f) #[] #[] := rfl
    simp [resolve, invoke, hx, hfn, Deferred.ofValue, this]
  rw [hrun, Oper.upon_enter]
  refine hc.mono fun e w' h => ?_
  obtain ⟨r, rfl, hK⟩ := hR e w' h
  exact hK
theorem run_subQ {ρ : Operand → Value} (w : World) {o : Oper} {x y : Operand} {p q : Int} (ho : o.op = .binOp .sub 3 x y 3) (h : ρ x = .int .i64 p) (h' : ρ y = .int .i64 q) (hw : IntKind.i64.wrap (p - q) = p - q) : (execOp ρ o).run Try.prog w = .ok (.value (.int .i64 (p - q))) w := by
  unfold execOp
  simp only [ho, h, h']
  simp [go_sem, hw]
theorem run_lssQ {ρ : Operand → Value} (w : World) {o : Oper} {x y : Operand} {p q : Int} (ho : o.op = .binOp .lss 3 x y 3) (h : ρ x = .int .i64 p) (h' : ρ y = .int .i64 q) : (execOp ρ o).run Try.prog w = .ok (.value (.bool (decide (p < q)))) w := by
  unfold execOp
  simp only [ho, h, h']
  simp [go_sem]
theorem run_fieldQ0 {ρ : Operand → Value} (w : World) {o : Oper} {x : Operand} {g : Nat} (ho : o.op = .fieldAddr 47 x 0) (h : ρ x = .pointer (some ⟨g, 0, none⟩)) : (execOp ρ o).run Try.prog w = .ok (.value (.pointer (some ⟨g, 0, none⟩))) w := by
  unfold execOp
  simp only [ho, h]
  simp [go_sem]
theorem run_fieldQ1 {ρ : Operand → Value} (w : World) {o : Oper} {x : Operand} {g : Nat} (ho : o.op = .fieldAddr 47 x 1) (h : ρ x = .pointer (some ⟨g, 0, none⟩)) : (execOp ρ o).run Try.prog w = .ok (.value (.pointer (some ⟨g, 1, none⟩))) w := by
  unfold execOp
  simp only [ho, h]
  simp [go_sem]
theorem run_assignR {ρ : Operand → Value} {P : Program} (w : World) {o : Oper} {x : Operand} {v : Value} (ho : o.op = .assign x) (h : ρ x = v) : (execOp ρ o).run P w = .ok (.value v) w := by
  unfold execOp
  simp only [ho, h]
  simp [go_sem]
theorem run_idxA {ρ : Operand → Value} (w : World) {o : Oper} {x y : Operand} {g j : Nat} (ho : o.op = .indexAddr 58 x y) (h : ρ x = .pointer (some ⟨g, 0, none⟩)) (h' : ρ y = .int .i64 j) (hj : j < 2) : (execOp ρ o).run Try.prog w = .ok (.value (.pointer (some ⟨g, j, none⟩))) w := by
  unfold execOp
  simp only [ho, h, h']
  simp [go_sem, Try.underlying58]
  intro hc
  omega
theorem run_minQ {ρ : Operand → Value} (w : World) {o : Oper} {x y : Operand} {p q : Int} (ho : o.op = .call { callee := .builtin .min, args := #[x, y], argTypes := #[3, 3] }) (h : ρ x = .int .i64 p) (h' : ρ y = .int .i64 q) : (execOp ρ o).run Try.prog w = .ok (.value (.int .i64 (min p q))) w := by
  unfold execOp
  simp only [ho]
  simp [resolve, invoke, builtin, h, h', go_sem]
  by_cases hc : q < p
  · rw [if_pos hc, Int.min_eq_right (by omega)]
  · rw [if_neg hc, Int.min_eq_left (by omega)]
end Go.Proofs.Ytdndeegpbjlibac
