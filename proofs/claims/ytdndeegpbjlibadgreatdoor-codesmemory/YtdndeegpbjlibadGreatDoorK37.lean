import Derived.Test.YtdndeegpbjlibadGreatDoorK31
import Derived.Test.YtdndeegpbjlibadGreatDoorK36
import Derived.Test.YtdndeegpbjlibadGreatDoorK34
import Derived.Test.YtdndeegpbjlibadGreatDoorK03
import Derived.Shelf.Abstract
namespace Go.Proofs.YtdndeegpbjlibadGreatDoor
open Go.ChangeShapes Go.WideShapes Go.ChangeAt Go.RowKit Go.Shelf

/-! SINGLE OPERATIONS of the regions of package wave. -/

theorem grownBy_self (w : World) : w.grownBy w none := ⟨rfl, rfl, rfl, Nat.le_refl _, fun _ _ _ => rfl⟩
theorem op_skipQ {P : Program} {ops : Array Oper} {Q : Exit → Act → World → Prop} {i : Nat} {o : Oper} {a : Act} {w w' : World} {K : Act → World → Prop} (hi : ops[i]? = some o) (hg : o.guard = none)
    (hrun : (execOp a.eval o).run P w = .ok .skip w') (hK : K (a.put o.dst undef) w') : wpOp P ops Q i K a w := by
  unfold wpOp
  rw [hi]
  have hw : Region.wanted o (yielded ops a.tmps) = true := by simp [Region.wanted, hg]
  simp only [hw, if_true, Oper.wp]
  left
  rw [hrun]
  exact hK
theorem op_callN {ops : Array Oper} {Q : Exit → Act → World → Prop} {i f : Nat} {o : Oper} {a : Act} {w : World} {xs : Array Operand} {us : Array Value} {ts : Array TypeId} {K : Act → World → Prop} {R : Ending → World → Prop} (hi : ops[i]? = some o) (hg : o.guard = none) (hop : o.op = .call { callee := .value (.func f), args := xs, argTypes := ts })
    (he : Enters Tryz.prog f) (hx : xs.map a.eval = us) (hc : Calls Tryz.prog f us w R) (hR : ∀ e w', R e w' → ∃ r, e = .returned r ∧ K (a.put o.dst r) w') : wpOp Tryz.prog ops Q i K a w := by
  unfold wpOp
  rw [hi]
  have hw : Region.wanted o (yielded ops a.tmps) = true := by simp [Region.wanted, hg]
  simp only [hw, if_true, Oper.wp]
  left
  have hrun : (execOp a.eval o).run Tryz.prog w = .ok (.enter f us) w := by
    unfold execOp
    simp only [hop]
    have := he us w
    have hfn : a.eval (.func f) = .func (.func f) #[] #[] := rfl
    simp [resolve, invoke, hx, hfn, Deferred.ofValue, this]
  rw [hrun, Oper.upon_enter]
  refine hc.mono fun e w' h => ?_
  obtain ⟨r, rfl, hK⟩ := hR e w' h
  exact hK
theorem run_subQ {ρ : Operand → Value} (w : World) {o : Oper} {x y : Operand} {p q : Int} (ho : o.op = .binOp .sub 3 x y 3) (h : ρ x = .int .i64 p) (h' : ρ y = .int .i64 q) (hw : IntKind.i64.wrap (p - q) = p - q) : (execOp ρ o).run Tryz.prog w = .ok (.value (.int .i64 (p - q))) w := by
  unfold execOp
  simp only [ho, h, h']
  simp [go_sem, hw]
theorem run_lssQ {ρ : Operand → Value} (w : World) {o : Oper} {x y : Operand} {p q : Int} (ho : o.op = .binOp .lss 3 x y 3) (h : ρ x = .int .i64 p) (h' : ρ y = .int .i64 q) : (execOp ρ o).run Tryz.prog w = .ok (.value (.bool (decide (p < q)))) w := by
  unfold execOp
  simp only [ho, h, h']
  simp [go_sem]
theorem run_fieldQ0 {ρ : Operand → Value} (w : World) {o : Oper} {x : Operand} {g : Nat} (ho : o.op = .fieldAddr 29 x 0) (h : ρ x = .pointer (some ⟨g, 0, none⟩)) : (execOp ρ o).run Tryz.prog w = .ok (.value (.pointer (some ⟨g, 0, none⟩))) w := by
  unfold execOp
  simp only [ho, h]
  simp [go_sem]
theorem run_fieldQ1 {ρ : Operand → Value} (w : World) {o : Oper} {x : Operand} {g : Nat} (ho : o.op = .fieldAddr 29 x 1) (h : ρ x = .pointer (some ⟨g, 0, none⟩)) : (execOp ρ o).run Tryz.prog w = .ok (.value (.pointer (some ⟨g, 1, none⟩))) w := by
  unfold execOp
  simp only [ho, h]
  simp [go_sem]
theorem run_assignR {ρ : Operand → Value} {P : Program} (w : World) {o : Oper} {x : Operand} {v : Value} (ho : o.op = .assign x) (h : ρ x = v) : (execOp ρ o).run P w = .ok (.value v) w := by
  unfold execOp
  simp only [ho, h]
  simp [go_sem]
theorem run_idxA {ρ : Operand → Value} (w : World) {o : Oper} {x y : Operand} {g j : Nat} (ho : o.op = .indexAddr 102 x y) (h : ρ x = .pointer (some ⟨g, 0, none⟩)) (h' : ρ y = .int .i64 j) (hj : j < 2) : (execOp ρ o).run Tryz.prog w = .ok (.value (.pointer (some ⟨g, j, none⟩))) w := by
  unfold execOp
  simp only [ho, h, h']
  simp [go_sem, Tryz.underlying102]
  intro hc
  omega
theorem run_minQ {ρ : Operand → Value} (w : World) {o : Oper} {x y : Operand} {p q : Int} (ho : o.op = .call { callee := .builtin .min, args := #[x, y], argTypes := #[3, 3] }) (h : ρ x = .int .i64 p) (h' : ρ y = .int .i64 q) : (execOp ρ o).run Tryz.prog w = .ok (.value (.int .i64 (min p q))) w := by
  unfold execOp
  simp only [ho]
  simp [resolve, invoke, builtin, h, h', go_sem]
  by_cases hc : q < p
  · rw [if_pos hc, Int.min_eq_right (by omega)]
  · rw [if_neg hc, Int.min_eq_left (by omega)]
end Go.Proofs.YtdndeegpbjlibadGreatDoor

namespace Go.Proofs.YtdndeegpbjlibadGreatDoor
open Go.ChangeShapes Go.WideShapes Go.ChangeAt Go.RowKit Go.Shelf

/-! A REGION WHOSE TAIL IS 'x = append(x, ..)'. -/

theorem eval_setAll {l0 : List Value} {t : List (Nat × Value)} (s : Nat) (hn : (t.map (·.1)).Nodup) (hl : (t.all fun q => decide (q.1 < l0.length)) = true) : ({ tmps := (setAll l0 t).toArray, defers := [] } : Act).eval (.tmp s) = lkp l0 t s := by
  rw [← setAll_lkp t l0 s hn (fun q hq => of_decide_eq_true (List.all_eq_true.1 hl q hq))]
  simp [Act.eval, List.getD]

theorem region_push {P : Program} {ops : Array Oper} {id : Nat} {l0 : List Value} (n k u : Nat) (pre : List (Nat × Value)) (su : Nat) (post : List (Nat × Value)) (reads : List (List Nat)) (par : List Nat) (U : Value → World → Prop) (wr : World) (o2 : Oper) (d1 d2 : Nat) (v : Value) (R : World → Prop) (hm : P.follows .mixedOrders = true) (hn : ops.size = n) (hkn : n = k + 2)
    (hu : pre.length = u) (hdk : pre.length + 1 + post.length = k) (hnd : ((pre ++ (su, undef) :: post).map (·.1)).Nodup) (hdN : ((pre ++ (su, undef) :: post).all fun q => decide (q.1 < l0.length)) = true)
    (havail : ((List.range k).all fun i => (reads.getD i []).all fun s => (List.range k).all fun j => (((pre ++ (su, undef) :: post).getD j (0, undef)).1 != s) || waitsFor ops i j) = true) (htopo : ((List.range n).all fun i => laterNone ops i) = true)
    (hrN : ((List.range k).all fun i => (reads.getD i []).all fun s => decide (s < l0.length)) = true)
    (hpar : ((List.range k).all fun j => decide (j < par.getD j 0) && (decide (par.getD j 0 ≤ k) && waitsFor ops (par.getD j 0) j)) = true) (htail : ((List.range n).all fun i => decide (i ≤ k) || waitsFor ops i (i - 1)) = true)
    (hU : ∀ x w w', U x w → w.grownBy w' none → U x w')
    (ho2 : ops[k + 1]? = some o2) (hg2 : o2.guard = none) (hop2 : o2.op = .assign (.tmp d1)) (hdst2 : o2.dst = some d2) (hd1 : d1 < l0.length)
    (hstep : ∀ i, i < k → ∀ (x : Value) (a : Act) (w : World), Below wr.heap.size wr w → (∀ s ∈ reads.getD i [], a.eval (.tmp s) = lkp l0 (pre ++ (su, x) :: post) s) → ∀ (Q : Exit → Act → World → Prop) (K : Act → World → Prop), (i = u → ∀ x' w', w.grownBy w' none → U x' w' → K (a.put (some su) x') w') → (i ≠ u → ∀ w', w.grownBy w' none → K (a.put (some ((pre ++ (su, undef) :: post).getD i (0, undef)).1) ((pre ++ (su, undef) :: post).getD i (0, undef)).2) w') → wpOp P ops Q i K a w)
    (hlast : ∀ x w, Below wr.heap.size wr w → U x w → ∀ (Q : Exit → Act → World → Prop) (K : Act → World → Prop), (∀ w', R w' → K (({ tmps := (setAll l0 (pre ++ (su, x) :: post)).toArray, defers := [] } : Act).put (some d1) v) w') → wpOp P ops Q k K { tmps := (setAll l0 (pre ++ (su, x) :: post)).toArray, defers := [] } w) :
    (Code.region id ops true).wp P (fun e a' w' => e = .normal ∧ (∃ x, a' = { tmps := (((setAll l0 (pre ++ (su, x) :: post)).set d1 v).set d2 v).toArray, defers := [] }) ∧ R w') { tmps := l0.toArray, defers := [] } wr := by
  refine region_grow n k u pre su post reads par U wr hm hn (by omega) hu hdk hnd hdN havail htopo hrN hpar htail hU hstep (fun x w hb hu => ?_)
  rw [show n - k = 2 by omega]
  show wpOp P ops _ k (fun a' w' => wpOp P ops _ (k + 1) _ a' w') _ w
  refine hlast x w hb hu _ _ fun w' hR => ?_
  rw [put_list]
  have hev : ({ tmps := ((setAll l0 (pre ++ (su, x) :: post)).set d1 v).toArray, defers := [] } : Act).eval (.tmp d1) = v := by
    have hl := setAll_length (pre ++ (su, x) :: post) l0
    have : d1 < (setAll l0 (pre ++ (su, x) :: post)).length := by rw [hl]; exact hd1
    simp [Act.eval, this]
  refine op_value ho2 hg2 (run_assignR w' hop2 hev) ⟨rfl, ⟨x, ?_⟩, hR⟩
  rw [hdst2, put_list]
end Go.Proofs.YtdndeegpbjlibadGreatDoor
