import Derived.Test.YtdgdklmgnnhadafK26
import Derived.Test.YtdgdklmgnnhadafK30
import Derived.Test.YtdgdklmgnnhadafK28
import Derived.Test.YtdgdklmgnnhadafK25
namespace Go.Proofs.Ytdgdklmgnnhadaf
open Go.ChangeShapes Go.WideShapes Go.ChangeAt Go.RowKit
theorem run_geqR {ρ : Operand → Value} (w : World) {o : Oper} {x y : Operand} {p q : Int} (ho : o.op = .binOp .geq 3 x y 3) (h : ρ x = .int .i64 p) (h' : ρ y = .int .i64 q) (hd : decide (q ≤ p) = true) : (execOp ρ o).run Try.prog w = .ok (.value (.bool true)) w := by
  have hq : q ≤ p := of_decide_eq_true hd
  unfold execOp
  simp only [ho, h, h']
  simp [go_sem, hq]
theorem run_lssR {ρ : Operand → Value} (w : World) {o : Oper} {x y : Operand} {p q : Int} (ho : o.op = .binOp .lss 3 x y 3) (h : ρ x = .int .i64 p) (h' : ρ y = .int .i64 q) (hd : decide (p < q) = true) : (execOp ρ o).run Try.prog w = .ok (.value (.bool true)) w := by
  have hq : p < q := of_decide_eq_true hd
  unfold execOp
  simp only [ho, h, h']
  simp [go_sem, hq]
theorem run_gtrR {ρ : Operand → Value} (w : World) {o : Oper} {x y : Operand} {p q : Int} (ho : o.op = .binOp .gtr 3 x y 3) (h : ρ x = .int .i64 p) (h' : ρ y = .int .i64 q) (hd : decide (q < p) = true) : (execOp ρ o).run Try.prog w = .ok (.value (.bool true)) w := by
  have hq : q < p := of_decide_eq_true hd
  unfold execOp
  simp only [ho, h, h']
  simp [go_sem, hq]
theorem run_subR {ρ : Operand → Value} (w : World) {o : Oper} {x y : Operand} {p q : Int} (ho : o.op = .binOp .sub 3 x y 3) (h : ρ x = .int .i64 p) (h' : ρ y = .int .i64 q) (hw : IntKind.i64.wrap (p - q) = p - q) : (execOp ρ o).run Try.prog w = .ok (.value (.int .i64 (p - q))) w := by
  unfold execOp
  simp only [ho, h, h']
  simp [go_sem, hw]
theorem run_lenR {ρ : Operand → Value} (w : World) {o : Oper} {x : Operand} {a : Option Addr} {n c : Nat} (ho : o.op = .call { callee := .builtin .len, args := #[x], argTypes := #[58] }) (h : ρ x = .slice a n c) : (execOp ρ o).run Try.prog w = .ok (.value (.int .i64 n)) w := by
  unfold execOp
  simp only [ho]
  simp [go_sem, h]
theorem run_ixIR {ρ : Operand → Value} (w : World) {o : Oper} {x y : Operand} {g s j n c : Nat} (ho : o.op = .indexAddr 31 x y) (h : ρ x = .slice (some ⟨g, s, none⟩) n c) (h' : ρ y = .int .i64 j) (hj : j < n) : (execOp ρ o).run Try.prog w = .ok (.value (.pointer (some ⟨g, s + j, none⟩))) w := by
  unfold execOp
  simp only [ho, h, h']
  simp [go_sem, hj]
theorem run_ixPR {ρ : Operand → Value} (w : World) {o : Oper} {x y : Operand} {g s j n c : Nat} (ho : o.op = .indexAddr 58 x y) (h : ρ x = .slice (some ⟨g, s, none⟩) n c) (h' : ρ y = .int .i64 j) (hj : j < n) : (execOp ρ o).run Try.prog w = .ok (.value (.pointer (some ⟨g, s + j * 4, none⟩))) w := by
  unfold execOp
  simp only [ho, h, h']
  simp [go_sem, hj]
theorem run_ldIR {ρ : Operand → Value} (w : World) {o : Oper} {x : Operand} {g j : Nat} {v : Value} (ho : o.op = .load 3 x) (h : ρ x = .pointer (some ⟨g, j, none⟩)) (hc : w.cell? ⟨g, j, none⟩ = some v) : (execOp ρ o).run Try.prog w = .ok (.value v) w := by
  unfold execOp
  simp only [ho, h]
  simp [go_sem, hc]
theorem run_ldPR {ρ : Operand → Value} (w : World) {o : Oper} {x : Operand} {g j : Nat} {v0 v1 v2 v3 : Value} (ho : o.op = .load 64 x) (h : ρ x = .pointer (some ⟨g, j, none⟩)) (h0 : w.cell? ⟨g, j, none⟩ = some v0) (h1 : w.cell? ⟨g, j + 1, none⟩ = some v1) (h2 : w.cell? ⟨g, j + 2, none⟩ = some v2) (h3 : w.cell? ⟨g, j + 3, none⟩ = some v3) : (execOp ρ o).run Try.prog w = .ok (.value (.agg #[v0, v1, v2, v3])) w := by
  unfold execOp
  simp only [ho, h]
  simp [go_sem, h0, h1, h2, h3]
theorem run_notR {ρ : Operand → Value} (w : World) {o : Oper} {x : Operand} (ho : o.op = .unOp .not 4 x) (h : ρ x = .bool true) : (execOp ρ o).run Try.prog w = .ok (.value (.bool false)) w := by
  unfold execOp
  simp only [ho, h]
  simp [go_sem]
theorem run_pickR {ρ : Operand → Value} {P : Program} (w : World) {o : Oper} {x y z : Operand} {v : Value} (ho : o.op = .pick x y z) (h : ρ x = .bool true) (h' : ρ y = v) : (execOp ρ o).run P w = .ok (.value v) w := run_pickQ w ho h h'
/-- A guarded call of a function value that is bound to something. -/
theorem op_callVG {ops : Array Oper} {Q : Exit → Act → World → Prop} {i f s : Nat} {o : Oper} {a : Act} {w : World} {xs : Array Operand} {us lb : Array Value} {ts : Array TypeId} {K : Act → World → Prop} {R : Ending → World → Prop} (hi : ops[i]? = some o) {oj : Oper} {j sg : Nat} {want : Bool} (hg : o.guard = some (j, want)) (hj : ops[j]? = some oj) (hd : oj.dst = some sg) (hs : a.eval (.tmp sg) = .bool want) (hop : o.op = .call { callee := .value (.tmp s), args := xs, argTypes := ts })
    (he : Enters Try.prog f) (hv : a.eval (.tmp s) = .func (.func f) #[] lb) (hx : xs.map a.eval = us) (hc : Calls Try.prog f (us ++ lb) w R) (hR : ∀ e w', R e w' → ∃ r, e = .returned r ∧ K (a.put o.dst r) w') : wpOp Try.prog ops Q i K a w := by
  unfold wpOp
  rw [hi]
  have hw := wanted_of hg hj hd hs
  simp only [hw, if_true, Oper.wp]
  left
  have hrun : (execOp a.eval o).run Try.prog w = .ok (.enter f (us ++ lb)) w := by
    unfold execOp
    simp only [hop]
    have := he (us ++ lb) w
    simp [resolve, invoke, hx, hv, Deferred.ofValue, this]
  rw [hrun, Oper.upon_enter]
  refine hc.mono fun e w' h => ?_
  obtain ⟨r, rfl, hK⟩ := hR e w' h
  exact hK
theorem eval_list (l : List Value) (s : Nat) : ({ tmps := l.toArray, defers := [] } : Act).eval (.tmp s) = l.getD s undef := by
  show l.toArray.getD s undef = l.getD s undef
  rw [Array.getD_eq_getD_getElem?, List.getElem?_toArray, List.getD_eq_getElem?_getD]
theorem getD_setV (l : List Value) (k j : Nat) (x : Value) (h : j ≠ k) : (l.set k x).getD j undef = l.getD j undef := by
  rw [List.getD_eq_getElem?_getD, List.getD_eq_getElem?_getD, List.getElem?_set_ne (Ne.symm h)]
theorem getD_setRq (l : List Value) (k : Nat) (x : Value) (h : k < l.length) : (l.set k x).getD k undef = x := by
  rw [List.getD_eq_getElem?_getD, List.getElem?_set_self h]
  rfl
/-- A guarded call of a function value that says yes, '!' of it, and '&&' with it. -/
theorem tail_call {ops : Array Oper} {Q : Exit → Act → World → Prop} {l : List Value} {w : World} {f i sg sf sx d1 d2 d3 jg : Nat} {o1 o2 o3 og : Oper} {x : Value} {lb : Array Value} {ts : Array TypeId} {z : Operand} {R : World → Prop}
    (h1 : ops[i]? = some o1) (h2 : ops[i + 1]? = some o2) (h3 : ops[i + 2]? = some o3) (hj : ops[jg]? = some og) (hd : og.dst = some sg)
    (g1 : o1.guard = some (jg, true)) (g2 : o2.guard = some (jg, true)) (g3 : o3.guard = none) (e1 : o1.dst = some d1) (e2 : o2.dst = some d2) (e3 : o3.dst = some d3)
    (p1 : o1.op = .call { callee := .value (.tmp sf), args := #[.tmp sx], argTypes := ts }) (p2 : o2.op = .unOp .not 4 (.tmp d1)) (p3 : o3.op = .pick (.tmp sg) (.tmp d2) z)
    (he : Enters Try.prog f) (vg : l.getD sg undef = .bool true) (vf : l.getD sf undef = .func (.func f) #[] lb) (vx : l.getD sx undef = x) (n1 : sg ≠ d1) (n2 : sg ≠ d2) (n3 : d1 < l.length) (n4 : d2 < l.length)
    (hc : Calls Try.prog f (#[x] ++ lb) w fun e w' => e = .returned (.bool true) ∧ R w') (hQ : ∀ w', R w' → Q .normal { tmps := (((l.set d1 (.bool true)).set d2 (.bool false)).set d3 (.bool false)).toArray, defers := [] } w') : tailWp Try.prog ops Q [i, i + 1, i + 2] { tmps := l.toArray, defers := [] } w := by
  refine op_callVG h1 g1 hj hd ((eval_list l sg).trans vg) p1 he ((eval_list l sf).trans vf) (map1L ((eval_list l sx).trans vx)) hc ?_
  rintro e w' ⟨rfl, hR⟩
  refine ⟨_, rfl, ?_⟩
  rw [e1, put_list]
  have a1 : (l.set d1 (.bool true)).getD sg undef = .bool true := (getD_setV l d1 sg _ n1).trans vg
  have a2 : (l.set d1 (.bool true)).getD d1 undef = .bool true := getD_setRq l d1 _ n3
  refine op_valueG h2 g2 hj hd ((eval_list _ sg).trans a1) (run_notR w' p2 ((eval_list _ d1).trans a2)) ?_
  rw [e2, put_list]
  refine op_value h3 g3 (run_pickR w' p3 ((eval_list _ sg).trans ((getD_setV _ d2 sg _ n2).trans a1)) ((eval_list _ d2).trans (getD_setRq _ d2 _ (by rw [List.length_set]; exact n4)))) ?_
  rw [e3, put_list]
  exact hQ w' hR
set_option maxHeartbeats 1000000 in
/-- A region that draws its order: known values, then such a call. -/
theorem region_tail {ops : Array Oper} {id : Nat} {l0 : List Value} {Q : Exit → Act → World → Prop} {wr : World} (n k : Nat) (tb : List (Nat × Value)) (reads : List (List Nat)) (par : List Nat) {f sg sf sx d1 d2 d3 jg : Nat} {o1 o2 o3 og : Oper} {x : Value} {lb : Array Value} {ts : Array TypeId} {z : Operand} {R : World → Prop}
    (hm : Try.prog.follows .mixedOrders = true) (hn : ops.size = n) (hkn : n = k + 3) (hdk : tb.length = k) (hnd : (tb.map (·.1)).Nodup) (hdN : ((tb.map (·.1)).all fun s => decide (s < l0.length)) = true)
    (havail : ((List.range k).all fun i => (reads.getD i []).all fun s => (List.range k).all fun j => ((tb.map (·.1)).getD j 0 != s) || waitsFor ops i j) = true) (htopo : ((List.range n).all fun i => laterNone ops i) = true)
    (hrN : ((List.range k).all fun i => (reads.getD i []).all fun s => decide (s < l0.length)) = true)
    (hpar : ((List.range k).all fun j => decide (j < par.getD j 0) && (decide (par.getD j 0 ≤ k) && waitsFor ops (par.getD j 0) j)) = true) (htail : ((List.range n).all fun i => decide (i ≤ k) || waitsFor ops i (i - 1)) = true)
    (hstep : ∀ i, i < k → ∀ (a : Act) (w : World), Kept [] wr w → (∀ s ∈ reads.getD i [], a.eval (.tmp s) = lkp l0 tb s) → ∀ (Q : Exit → Act → World → Prop) (K : Act → World → Prop), (∀ w', Kept [] w w' → K (a.put (some (tb.getD i (0, undef)).1) (tb.getD i (0, undef)).2) w') → wpOp Try.prog ops Q i K a w)
    (h1 : ops[k]? = some o1) (h2 : ops[k + 1]? = some o2) (h3 : ops[k + 2]? = some o3) (hj : ops[jg]? = some og) (hd : og.dst = some sg)
    (g1 : o1.guard = some (jg, true)) (g2 : o2.guard = some (jg, true)) (g3 : o3.guard = none) (e1 : o1.dst = some d1) (e2 : o2.dst = some d2) (e3 : o3.dst = some d3)
    (p1 : o1.op = .call { callee := .value (.tmp sf), args := #[.tmp sx], argTypes := ts }) (p2 : o2.op = .unOp .not 4 (.tmp d1)) (p3 : o3.op = .pick (.tmp sg) (.tmp d2) z)
    (he : Enters Try.prog f) (vg : lkp l0 tb sg = .bool true) (vf : lkp l0 tb sf = .func (.func f) #[] lb) (vx : lkp l0 tb sx = x) (n1 : sg ≠ d1) (n2 : sg ≠ d2) (n3 : decide (d1 < l0.length) = true) (n4 : decide (d2 < l0.length) = true)
    (hc : ∀ w, Below wr.heap.size wr w → Calls Try.prog f (#[x] ++ lb) w fun e w' => e = .returned (.bool true) ∧ R w') (hQ : ∀ w', R w' → Q .normal { tmps := ((((setAll l0 tb).set d1 (.bool true)).set d2 (.bool false)).set d3 (.bool false)).toArray, defers := [] } w') :
    (Code.region id ops true).wp Try.prog Q { tmps := l0.toArray, defers := [] } wr := by
  have hall : (tb.all fun q => decide (q.1 < l0.length)) = true := by
    rw [List.all_map] at hdN
    exact hdN
  refine region_knownU n k k [] (fun _ => True) tb reads par wr hm hn (by omega) hdk hnd hdN havail htopo hrN hpar htail (fun _ _ h _ => h) (fun i hi _ a w hk hr => hstep i hi a w hk hr) (fun h => absurd h (Nat.lt_irrefl _)) ?_
  intro w hk _
  have e3' : List.range' k (n - k) = [k, k + 1, k + 2] := by rw [hkn, Nat.add_sub_cancel_left]; rfl
  rw [e3']
  have gv : ∀ s, (setAll l0 tb).getD s undef = lkp l0 tb s := fun s => (eval_list _ s).symm.trans (eval_setAll s hnd hall)
  exact tail_call h1 h2 h3 hj hd g1 g2 g3 e1 e2 e3 p1 p2 p3 he ((gv sg).trans vg) ((gv sf).trans vf) ((gv sx).trans vx) n1 n2 (by rw [setAll_length]; exact of_decide_eq_true n3) (by rw [setAll_length]; exact of_decide_eq_true n4) (hc w (hk.below (Nat.le_refl _) (by simp))) hQ
end Go.Proofs.Ytdgdklmgnnhadaf
namespace Go.Proofs.Ytdgdklmgnnhadaf
open Go.ChangeShapes Go.WideShapes Go.ChangeAt Go.RowKit
theorem run_fdRp {ρ : Operand → Value} (w : World) {o : Oper} {x : Operand} {g j : Nat} (ho : o.op = .fieldAddr 73 x 1) (h : ρ x = .pointer (some ⟨g, j, none⟩)) : (execOp ρ o).run Try.prog w = .ok (.value (.pointer (some ⟨g, j + 1, none⟩))) w := by
  unfold execOp
  simp only [ho, h]
  simp [go_sem]
theorem run_fdRc {ρ : Operand → Value} (w : World) {o : Oper} {x : Operand} {g j : Nat} (ho : o.op = .fieldAddr 103 x 0) (h : ρ x = .pointer (some ⟨g, j, none⟩)) : (execOp ρ o).run Try.prog w = .ok (.value (.pointer (some ⟨g, j, none⟩))) w := by
  unfold execOp
  simp only [ho, h]
  simp [go_sem]
theorem run_fdS0 {ρ : Operand → Value} (w : World) {o : Oper} {x : Operand} {g j : Nat} (ho : o.op = .fieldAddr 114 x 0) (h : ρ x = .pointer (some ⟨g, j, none⟩)) : (execOp ρ o).run Try.prog w = .ok (.value (.pointer (some ⟨g, j, none⟩))) w := by
  unfold execOp
  simp only [ho, h]
  simp [go_sem]
theorem run_fdS1 {ρ : Operand → Value} (w : World) {o : Oper} {x : Operand} {g j : Nat} (ho : o.op = .fieldAddr 114 x 1) (h : ρ x = .pointer (some ⟨g, j, none⟩)) : (execOp ρ o).run Try.prog w = .ok (.value (.pointer (some ⟨g, j + 1, none⟩))) w := by
  unfold execOp
  simp only [ho, h]
  simp [go_sem]
theorem run_ldGs {ρ : Operand → Value} (w : World) {o : Oper} {x : Operand} {g j : Nat} {v : Value} (ho : o.op = .load 71 x) (h : ρ x = .pointer (some ⟨g, j, none⟩)) (hc : w.cell? ⟨g, j, none⟩ = some v) : (execOp ρ o).run Try.prog w = .ok (.value v) w := by
  unfold execOp
  simp only [ho, h]
  simp [go_sem, hc]
theorem run_bldG {ρ : Operand → Value} (w : World) {o : Oper} {x y z : Operand} {p q r : Int} (ho : o.op = .build 130 #[(0, x), (1, y), (2, z)]) (h : ρ x = .int .i64 p) (h' : ρ y = .int .i64 q) (h'' : ρ z = .int .i64 r) : (execOp ρ o).run Try.prog w = .ok (.value (.agg #[.int .i64 p, .int .i64 q, .int .i64 r])) w := by
  unfold execOp
  simp only [ho]
  simp [go_sem, h, h', h'']
theorem run_bslG {ρ : Operand → Value} (w : World) {o : Oper} {x : Operand} {p q r : Int} (ho : o.op = .buildSlice 71 1 #[(0, x)]) (h : ρ x = .agg #[.int .i64 p, .int .i64 q, .int .i64 r]) : (execOp ρ o).run Try.prog w = .ok (.value (.slice (some ⟨w.heap.size, 0, none⟩) 1 1)) (w.alloc (.cells #[.int .i64 p, .int .i64 q, .int .i64 r] 130)) := by
  unfold execOp
  simp only [ho]
  simp [go_sem, h]
theorem run_stGs {ρ : Operand → Value} (w : World) {o : Oper} {x y : Operand} {g j : Nat} {u : Value} {a : Option Addr} {n c : Nat} (ho : o.op = .store 71 x y) (h : ρ x = .pointer (some ⟨g, j, none⟩)) (h' : ρ y = .slice a n c) (hc : w.cell? ⟨g, j, none⟩ = some u) (hf : w.frozen? ⟨g, j, none⟩ = false) : (execOp ρ o).run Try.prog w = .ok .skip (w.setCell ⟨g, j, none⟩ (.slice a n c)) := by
  unfold execOp
  simp only [ho, h, h']
  simp [go_sem, hc, hf]
theorem op_pushG {ops : Array Oper} {Q : Exit → Act → World → Prop} {i : Nat} {o : Oper} {a : Act} {W : World} {K : Act → World → Prop} {v : Value} {L : Nat} {xs : List Value} {i0 : TypeInfo} (hi : ops[i]? = some o) (hg : o.guard = none) (hi0 : Try.prog.info? 130 = some i0) (hz0 : i0.zero = some (.agg #[.int .i64 0, .int .i64 0, .int .i64 0])) (hz1 : i0.size = 3) (hz2 : i0.bytes = 24) (B : Nat) (p q r : Int) (gb : Nat) {s x : Operand}
    (ho : o.op = .call { callee := .builtin .append, args := #[s, x], argTypes := #[71, 71] }) (hs : a.eval s = v) (hx : a.eval x = .slice (some ⟨gb, 0, none⟩) 1 1) (hown : W.ownsRow B 130 3 v L xs) (hc : At W gb 130 [.int .i64 p, .int .i64 q, .int .i64 r]) (hlen : L ≤ 100000) (hB : B ≤ W.heap.size)
    (h : ∀ v' w', w'.ownsRow B 130 3 v' (L + 1) (xs ++ [.int .i64 p, .int .i64 q, .int .i64 r]) → W.grownBy w' v.ownBlock → (v'.ownBlock = v.ownBlock ∨ v'.ownBlock = some W.heap.size) → K (a.put o.dst v') w') : wpOp Try.prog ops Q i K a W := by
  unfold wpOp
  rw [hi]
  have hw : Region.wanted o (yielded ops a.tmps) = true := by simp [Region.wanted, hg]
  simp only [hw, if_true]
  left
  have h9 := step_pushR (ops := ops) (K := K) (Q := Q) (E := True) B gb Try.underlying71 hi0 hz0 hz1 hz2 rfl (by decide) hown hg s x ho hs hx (news := [.int .i64 p, .int .i64 q, .int .i64 r]) rfl (fun j u hj => (hc.cell j).trans hj) (by intro u hu; simp at hu; rcases hu with rfl | rfl | rfl <;> rfl) (by unfold maxLen; omega) (by omega) hB h
  rw [if_pos hw] at h9
  exact h9
/-- What is known of each value. -/
def rep9 (N4 b bx : Nat) (fs i M p q : Int) (V : Value) (B L Z : Nat) (LL : List GapM) (S : List Nat) : Nat → (Nat → Value) → World → Prop
  | 0, σ, _ => σ 0 = .pointer (some ⟨N4, 1, none⟩)
  | 1, σ, _ => σ 1 = V
  | 2, σ, _ => σ 2 = .pointer (some ⟨b, 0, none⟩)
  | 3, σ, _ => σ 3 = .pointer (some ⟨b, 0, none⟩)
  | 4, σ, _ => σ 4 = .pointer (some ⟨b, 0, none⟩)
  | 5, σ, _ => σ 5 = .int .i64 fs
  | 6, σ, _ => σ 6 = .int .i64 i
  | 7, σ, _ => σ 7 = .int .i64 M
  | 8, σ, _ => σ 8 = .pointer (some ⟨bx, 0, none⟩)
  | 9, σ, _ => σ 9 = .int .i64 p
  | 10, σ, _ => σ 10 = .pointer (some ⟨bx, 1, none⟩)
  | 11, σ, _ => σ 11 = .int .i64 q
  | 12, σ, _ => σ 12 = .agg #[.int .i64 M, .int .i64 p, .int .i64 q]
  | 13, σ, w => ∃ gx, gx ∉ S ∧ σ 13 = .slice (some ⟨gx, 0, none⟩) 1 1 ∧ At w gx 130 [.int .i64 M, .int .i64 p, .int .i64 q]
  | 14, σ, w => ∃ a' c', σ 14 = .slice a' (L + 1) c' ∧ w.ownsRow B 130 3 (.slice a' (L + 1) c') (L + 1) (cellsGp LL ++ [.int .i64 M, .int .i64 p, .int .i64 q]) ∧ (∀ x, (Value.slice a' (L + 1) c').ownBlock = some x → V.ownBlock = some x ∨ Z ≤ x)
  | 15, σ, _ => σ 15 = .pointer (some ⟨N4, 1, none⟩)
  | _, _, _ => True
theorem rep9_cong {N4 b bx : Nat} {fs i M p q : Int} {V : Value} {B L Z : Nat} {LL : List GapM} {S : List Nat} (j : Nat) (σ σ' : Nat → Value) (w : World) (h : σ j = σ' j) (hp : rep9 N4 b bx fs i M p q V B L Z LL S j σ w) : rep9 N4 b bx fs i M p q V B L Z LL S j σ' w := by
  match j with
  | 0 | 1 | 2 | 3 | 4 | 5 | 6 | 7 | 8 | 9 | 10 | 11 | 12 | 15 => exact h.symm.trans hp
  | 13 => obtain ⟨gx, h1, h2, h3⟩ := hp; exact ⟨gx, h1, h.symm.trans h2, h3⟩
  | 14 => obtain ⟨a', c', h1, h2⟩ := hp; exact ⟨a', c', h.symm.trans h1, h2⟩
  | n + 16 => trivial
theorem rep9_mono {N4 b bx : Nat} {fs i M p q : Int} {V : Value} {B L Z : Nat} {LL : List GapM} {S : List Nat} (j : Nat) (σ : Nat → Value) (w w' : World) (hp : rep9 N4 b bx fs i M p q V B L Z LL S j σ w) (hk : Kept [] w w') : rep9 N4 b bx fs i M p q V B L Z LL S j σ w' := by
  match j with
  | 0 | 1 | 2 | 3 | 4 | 5 | 6 | 7 | 8 | 9 | 10 | 11 | 12 | 15 => exact hp
  | 13 => obtain ⟨gx, h1, h2, h3⟩ := hp; exact ⟨gx, h1, h2, h3.kept hk (by simp)⟩
  | 14 => obtain ⟨a', c', h1, h2, h3⟩ := hp; exact ⟨a', c', h1, keptRow h2 hk (by simp), h3⟩
  | n + 16 => trivial
theorem rep9_monoS {N4 b bx : Nat} {fs i M p q : Int} {V : Value} {B L Z : Nat} {LL : List GapM} {S : List Nat} (j : Nat) (σ : Nat → Value) (w w' : World) (hj : j ≠ 14) (hp : rep9 N4 b bx fs i M p q V B L Z LL S j σ w) (hk : Kept S w w') : rep9 N4 b bx fs i M p q V B L Z LL S j σ w' := by
  match j with
  | 0 | 1 | 2 | 3 | 4 | 5 | 6 | 7 | 8 | 9 | 10 | 11 | 12 | 15 => exact hp
  | 13 => obtain ⟨gx, h1, h2, h3⟩ := hp; exact ⟨gx, h1, h2, h3.kept hk h1⟩
  | 14 => exact absurd rfl hj
  | n + 16 => trivial
theorem RpAt.push2 {w ws wc : World} {nx : Int} {L : List GapM} {a a' : Option Addr} {c c' : Nat} {q : GapM} (h : RpAt w ws nx L a c) (hk : Kept (Value.slice a L.length c).ownBlock.toList ws wc) (ho : wc.ownsRow (w.heap.size + 2) 130 3 (.slice a' (L.length + 1) c') (L.length + 1) (cellsGp L ++ q.cells)) : RpAt w (wc.setCell ⟨w.heap.size + 1, 1, none⟩ (.slice a' (L.length + 1) c')) nx (L ++ [q]) a' c' := by
  have hblk : ∀ x, x ∈ (Value.slice a L.length c).ownBlock.toList → w.heap.size + 2 ≤ x := fun x hx => (World.ownsRow.lt h.own x (by simpa using hx)).1
  have hl : (L ++ [q]).length = L.length + 1 := by simp
  have hb4 : Below w.heap.size w wc := h.bel.trans (hk.below h.bel.size (fun x hx => by have := hblk x hx; omega))
  refine ⟨?_, ?_, ?_, ?_⟩
  · rw [hl]
    exact (h.row.kept hk (fun hm => by have := hblk _ hm; omega)).setCell _
  · exact (h.res.kept hk (fun hm => by have := hblk _ hm; omega)).setOther _ _ (by show w.heap.size ≠ w.heap.size + 1; omega)
  · rw [hl, cellsGp_app]
    have e : cellsGp [q] = q.cells := by simp [cellsGp]
    rw [e]
    refine keptRow ho (kept_setCell wc (w.heap.size + 1) 1 _) (fun x hx => ?_)
    have := (World.ownsRow.lt ho x hx).1
    simp
    omega
  · exact hb4.setCell (by show w.heap.size ≤ w.heap.size + 1; omega) _
end Go.Proofs.Ytdgdklmgnnhadaf
