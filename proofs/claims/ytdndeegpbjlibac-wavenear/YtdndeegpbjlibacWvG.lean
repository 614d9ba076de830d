import Derived.Test.YtdndeegpbjlibacWvO
namespace Go.Proofs.Ytdndeegpbjlibac
open Go.ChangeShapes Go.WideShapes Go.ChangeAt Go.RowKit Go.Shelf

/-! A REGION WHOSE TAIL IS 'x = append(x, ..)'. -/

theorem eval_setAll {l0 : List Value} {t : List (Nat × Value)} (s : Nat) (hn : (t.map (·.1)).Nodup) (hl : (t.all fun q => decide (q.1 < l0.length)) = true) : ({ tmps := (setAll l0 t).toArray, defers := [] } : Act).eval (.tmp s) = lkp l0 t s := by
  rw [← setAll_lkp t l0 s hn (fun q hq => of_decide_eq_true (List.all_eq_true.1 hl q hq))]
  simp [Act.eval, List.getD]

theorem region_push {P : Program} {ops : Array Oper} {id : Nat} {l0 : List Value} (n k u : Nat) (pre : List (Nat × Value)) (su : Nat) (post : List (Nat × Value)) (reads : List (List Nat)) (par : List Nat) (U : Value → World → Prop) (wr : World) (o2 : Oper) (d1 d2 : Nat) (v : Value) (R : World → Prop) (hm : P.follows .mixedOrders = true) (hn : ops.size = n) (hkn : n = k + 2)
    (hu : pre.length = u) (hdk : pre.length + 1 + post.length = k) (hnd : ((pre ++ (su, undef) :: post).map (·.1)).Nodup) (hdN : ((pre ++ (su, undef) :: post).all fun q => decide (q.1 < l0.length)) = true)
    (havail : ((List.range k).all fun i => (reads.getD i []).all fun s => (List.range k).all fun j => (((pre ++ (su, undef) :: post).getD j (0, undef)).1 != s) || waitsFor ops i j) = true) (htopo : ((List.range n).all fun i => laterNone ops i) = true)
    (hrN : ((List.range k).all fun i => (reads.getD i []).all fun s => decide (s < l0.length)) = true)
    (hpar : ((List.range k).all fun j => decide (j < par.getD j 0) && (decide (par.getD j 0 ≤ k) && waitsFor ops (par.getD j 0) j)) = true) (htail : ((List.range n).all fun i => decide (i ≤ k) || waitsFor ops i (i - 1)) = true)
    (hU : ∀ x w w', U x w → w.grownBy w' none → U x w')
    (ho2 : ops[k + 1]? = some o2) (hg2 : o2.guard = none) (hop2 : o2.op = .assign (.tmp d1)) (hdst2 : o2.dst = some d2) (hd1 : d1 < l0.length)
    (hstep : ∀ i, i < k → ∀ (x : Value) (a : Act) (w : World), Below wr.heap.size wr w → (∀ s ∈ reads.getD i [], a.eval (.tmp s) = lkp l0 (pre ++ (su, x) :: post) s) → ∀ (Q : Exit → Act → World → Prop) (K : Act → World → Prop), (i = u → ∀ x' w', w.grownBy w' none → U x' w' → K (a.put (some su) x') w') → (i ≠ u → ∀ w', w.grownBy w' none → K (a.put (some ((pre ++ (su, undef) :: post).getD i (0, undef)).1) ((pre ++ (su, undef) :: post).getD i (0, undef)).2) w') → wpOp P ops Q i K a w)
    (hlast : ∀ x w, Below wr.heap.size wr w → U x w → ∀ (Q : Exit → Act → World → Prop) (K : Act → World → Prop), (∀ w', R w' → K (({ tmps := (setAll l0 (pre ++ (su, x) :: post)).toArray, defers := [] } : Act).put (some d1) v) w') → wpOp P ops Q k K { tmps := (setAll l0 (pre ++ (su, x) :: post)).toArray, defers := [] } w) :
    (Code.region id ops true).wp P (fun e a' w' => e = .normal ∧ (∃ x, a' = { tmps := (((setAll l0 (pre ++ (su, x) :: post)).set d1 v).set d2 v).toArray, defers := [] }) ∧ R w') { tmps := l0.toArray, defers := [] } wr := by
  refine region_grow n k u pre su post reads par U wr hm hn (by omega) hu hdk hnd hdN havail htopo hrN hpar htail hU hstep (fun x w hb hu => ?_)
  rw [show n - k = 2 by omega]
  show wpOp P ops _ k (fun a' w' => wpOp P ops _ (k + 1) _ a' w') _ w
  refine hlast x w hb hu _ _ fun w' hR => ?_
  rw [put_list]
  have hev : ({ tmps := ((setAll l0 (pre ++ (su, x) :: post)).set d1 v).toArray, defers := [] } : Act).eval (.tmp d1) = v := by
    have hl := setAll_length (pre ++ (su, x) :: post) l0
    have : d1 < (setAll l0 (pre ++ (su, x) :: post)).length := by rw [hl]; exact hd1
    simp [Act.eval, this]
  refine op_value ho2 hg2 (run_assignR w' hop2 hev) ⟨rfl, ⟨x, ?_⟩, hR⟩
  rw [hdst2, put_list]
end Go.Proofs.Ytdndeegpbjlibac
