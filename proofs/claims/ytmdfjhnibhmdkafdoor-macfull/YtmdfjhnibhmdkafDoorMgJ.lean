import Derived.Test.YtmdfjhnibhmdkafDoorMgH
import Derived.Test.YtmdfjhnibhmdkafDoorRegU
namespace Go.Proofs.YtmdfjhnibhmdkafDoor
open Go.ChangeShapes Go.WideShapes Go.ChangeAt Go.RowKit

/-! Single operations, for the step through a region of Grant. -/

theorem run_ixInts {ρ : Operand → Value} (w : World) {o : Oper} {x y : Operand} {g s j n c : Nat} (ho : o.op = .indexAddr 23 x y) (h : ρ x = .slice (some ⟨g, s, none⟩) n c) (h' : ρ y = .int .i64 j) (hj : j < n) : (execOp ρ o).run Tryd.prog w = .ok (.value (.pointer (some ⟨g, s + j, none⟩))) w := by
  unfold execOp
  simp only [ho, h, h']
  simp [go_sem, hj]
theorem run_ldint {ρ : Operand → Value} (w : World) {o : Oper} {x : Operand} {g j : Nat} {v : Value} (ho : o.op = .load 3 x) (h : ρ x = .pointer (some ⟨g, j, none⟩)) (hc : w.cell? ⟨g, j, none⟩ = some v) : (execOp ρ o).run Tryd.prog w = .ok (.value v) w := by
  unfold execOp
  simp only [ho, h]
  simp [go_sem, hc]
theorem run_subint {ρ : Operand → Value} (w : World) {o : Oper} {x y : Operand} {p q : Int} (ho : o.op = .binOp .sub 3 x y 3) (h : ρ x = .int .i64 p) (h' : ρ y = .int .i64 q) (hw : IntKind.i64.wrap (p - q) = p - q) : (execOp ρ o).run Tryd.prog w = .ok (.value (.int .i64 (p - q))) w := by
  unfold execOp
  simp only [ho, h, h']
  simp [go_sem, hw]
theorem run_addint {ρ : Operand → Value} (w : World) {o : Oper} {x y : Operand} {p q : Int} (ho : o.op = .binOp .add 3 x y 3) (h : ρ x = .int .i64 p) (h' : ρ y = .int .i64 q) (hw : IntKind.i64.wrap (p + q) = p + q) : (execOp ρ o).run Tryd.prog w = .ok (.value (.int .i64 (p + q))) w := by
  unfold execOp
  simp only [ho, h, h']
  simp [go_sem, hw]
theorem run_stI {ρ : Operand → Value} (w : World) {o : Oper} {x y : Operand} {g j : Nat} {u : Value} {v : Int} (ho : o.op = .store 3 x y) (h : ρ x = .pointer (some ⟨g, j, none⟩)) (h' : ρ y = .int .i64 v) (hc : w.cell? ⟨g, j, none⟩ = some u) (hf : w.frozen? ⟨g, j, none⟩ = false) : (execOp ρ o).run Tryd.prog w = .ok .skip (w.setCell ⟨g, j, none⟩ (.int .i64 v)) := by
  unfold execOp
  simp only [ho, h, h']
  simp [go_sem, hc, hf]
/-- A call of a function value that is bound to something. -/
theorem op_callV {ops : Array Oper} {Q : Exit → Act → World → Prop} {i f s : Nat} {o : Oper} {a : Act} {w : World} {xs : Array Operand} {us lb : Array Value} {ts : Array TypeId} {K : Act → World → Prop} {R : Ending → World → Prop} (hi : ops[i]? = some o) (hg : o.guard = none) (hop : o.op = .call { callee := .value (.tmp s), args := xs, argTypes := ts })
    (he : Enters Tryd.prog f) (hv : a.eval (.tmp s) = .func (.func f) #[] lb) (hx : xs.map a.eval = us) (hc : Calls Tryd.prog f (us ++ lb) w R) (hR : ∀ e w', R e w' → ∃ r, e = .returned r ∧ K (a.put o.dst r) w') : wpOp Tryd.prog ops Q i K a w := by
  unfold wpOp
  rw [hi]
  have hw : Region.wanted o (yielded ops a.tmps) = true := by simp [Region.wanted, hg]
  simp only [hw, if_true, Oper.wp]
  left
  have hrun : (execOp a.eval o).run Tryd.prog w = .ok (.enter f (us ++ lb)) w := by
    unfold execOp
    simp only [hop]
    have := he (us ++ lb) w
    simp [resolve, invoke, hx, hv, Deferred.ofValue, this]
  rw [hrun, Oper.upon_enter]
  refine hc.mono fun e w' h => ?_
  obtain ⟨r, rfl, hK⟩ := hR e w' h
  exact hK
theorem keptCell {S : List Nat} {w w' : World} (hk : Kept S w w') {a : Addr} {v : Value} (h : w.cell? a = some v) (hn : a.block ∉ S) : w'.cell? a = some v := (World.cell?_of_block (hk.block a.block (World.block_lt_of_cell? w a h) hn)).trans h
theorem OwnSh.kept {w w' : World} {B bx : Nat} {v : Value} {l : List ShM} (h : OwnSh w B v l) (hk : Kept [bx] w w') (hv : v.ownBlock ≠ some bx) : OwnSh w' B v l := by
  refine ⟨h.1, ?_⟩
  rcases h.2 with h' | ⟨g, cap, cur, h1, h2, h3, h4⟩
  · exact .inl h'
  · have hlt : g < w.heap.size := (Array.getElem?_eq_some_iff.1 h3).1
    exact .inr ⟨g, cap, cur, h1, h2, (hk.block g hlt (by simp; intro e; exact hv (by rw [h1, ← e]; rfl))).trans h3, h4⟩
theorem GrA.kept {w00 w0 w w' : World} {B g gg bx go : Nat} {v : Value} {l : List ShM} {out : List Int} {left x : Int} {ord : List Nat} (h : GrA w00 w0 w B g gg bx go v l out left ord) (hA : Apart B w0.heap.size g gg bx go v) (hk : Kept [bx] w w') (hx : ArrAt .i64 3 w' bx [x]) : GrA w00 w0 w' B g gg bx go v l out x ord := by
  have hB : B ≤ w.heap.size := Nat.le_of_lt (Nat.lt_of_le_of_lt h.P.le h.P.lt)
  refine ⟨⟨(hk.block g h.P.lt (by simp; exact hA.a7)).trans h.P.box, h.P.own.kept hk hA.v2, h.P.ne, h.P.le⟩, h.out.kept hk (by simp; exact hA.a3), hx, h.ord.kept hk (by simp; exact fun e => hA.a5 e.symm), h.bel.trans (hk.below (B := B) hB (by simp; exact hA.a2)), ⟨hk.os.trans h.kp.os, hk.tape.trans h.kp.tape, hk.output.trans h.kp.output, Nat.le_trans h.kp.size hk.size, fun i hi hn => (hk.block i (Nat.lt_of_lt_of_le hi h.kp.size) (by simp only [List.mem_singleton]; have := hA.b2; omega)).trans (h.kp.block i hi hn)⟩⟩
end Go.Proofs.YtmdfjhnibhmdkafDoor
