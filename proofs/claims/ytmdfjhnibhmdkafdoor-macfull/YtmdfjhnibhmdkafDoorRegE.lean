import Derived.Test.YtmdfjhnibhmdkafDoorGrowU
import Derived.Test.YtmdfjhnibhmdkafDoorWaveO
import Derived.Test.YtmdfjhnibhmdkafDoorGmR
import Derived.Shelf.Abstract
namespace Go.Proofs.YtmdfjhnibhmdkafDoor
open Go.ChangeShapes Go.WideShapes Go.ChangeAt Go.RowKit

/-! A REGION THAT DRAWS ITS ORDER: with known values (region_knownL), with a property of each value (region_each); calls, guarded calls. -/

set_option maxHeartbeats 1000000 in
theorem region_lastL {P : Program} {ops : Array Oper} {id : Nat} {l0 : List Value} {Q : Exit → Act → World → Prop} (k : Nat) (s0 : Nat) (v0 : Value) (post : List (Nat × Value)) (reads : List (List Nat)) (par : List Nat) (wr : World) (hm : P.follows .mixedOrders = true) (hn : ops.size = k + 1)
    (hdk : 0 + 1 + post.length = k) (hnd : (((s0, v0) :: post).map (·.1)).Nodup) (hdN : (((s0, v0) :: post).all fun q => decide (q.1 < l0.length)) = true)
    (havail : ((List.range k).all fun i => (reads.getD i []).all fun s => (List.range k).all fun j => ((((s0, undef) :: post).getD j (0, undef)).1 != s) || waitsFor ops i j) = true) (htopo : ((List.range (k + 1)).all fun i => laterNone ops i) = true)
    (hrN : ((List.range k).all fun i => (reads.getD i []).all fun s => decide (s < l0.length)) = true)
    (hpar : ((List.range k).all fun j => decide (j < par.getD j 0) && (decide (par.getD j 0 ≤ k) && waitsFor ops (par.getD j 0) j)) = true)
    (hstep : ∀ i, i < k → ∀ (a : Act) (w : World), Below wr.heap.size wr w → (∀ s ∈ reads.getD i [], a.eval (.tmp s) = lkp l0 ((s0, v0) :: post) s) → ∀ (Q : Exit → Act → World → Prop) (K : Act → World → Prop), (∀ w', w.grownBy w' none → K (a.put (some (((s0, v0) :: post).getD i (0, undef)).1) (((s0, v0) :: post).getD i (0, undef)).2) w') → wpOp P ops Q i K a w)
    (hlast : ∀ w, Below wr.heap.size wr w → tailWp P ops Q [k] { tmps := (setAll l0 ((s0, v0) :: post)).toArray, defers := [] } w) :
    (Code.region id ops true).wp P Q { tmps := l0.toArray, defers := [] } wr := by
  refine region_growU (k + 1) k 0 [] s0 post reads par (fun x _ => x = v0) wr hm hn (by omega) rfl hdk hnd hdN havail htopo hrN hpar ?_ (fun _ _ _ h _ => h) ?_ ?_
  · refine List.all_eq_true.2 fun i hi => ?_
    have := List.mem_range.1 hi
    rw [decide_eq_true (show i ≤ k by omega)]
    rfl
  · intro i hi x a w hb hx hr Q K hK1 hK
    refine hstep i hi a w hb (fun s hs => ?_) Q K (fun w' hg => ?_)
    · rw [hr s hs]
      by_cases e : s = s0
      · subst e
        rw [hx hs]
        rfl
      · exact lkp_mid s0 post x v0 [] s e
    · by_cases e : i = 0
      · subst e
        exact hK1 rfl v0 w' hg rfl
      · have := hK e w' hg
        obtain ⟨j, rfl⟩ : ∃ j, i = j + 1 := ⟨i - 1, by omega⟩
        exact this
  · intro x w hb hx
    subst hx
    rw [show k + 1 - k = 1 by omega]
    exact hlast w hb

set_option maxHeartbeats 1000000 in
theorem region_knownL {P : Program} {ops : Array Oper} {id : Nat} {l0 : List Value} {Q : Exit → Act → World → Prop} (n k : Nat) (s0 : Nat) (v0 : Value) (post : List (Nat × Value)) (reads : List (List Nat)) (par : List Nat) (wr : World) (hm : P.follows .mixedOrders = true) (hn : ops.size = n) (hkn : k < n)
    (hdk : 0 + 1 + post.length = k) (hnd : (((s0, v0) :: post).map (·.1)).Nodup) (hdN : (((s0, v0) :: post).all fun q => decide (q.1 < l0.length)) = true)
    (havail : ((List.range k).all fun i => (reads.getD i []).all fun s => (List.range k).all fun j => ((((s0, undef) :: post).getD j (0, undef)).1 != s) || waitsFor ops i j) = true) (htopo : ((List.range n).all fun i => laterNone ops i) = true)
    (hrN : ((List.range k).all fun i => (reads.getD i []).all fun s => decide (s < l0.length)) = true)
    (hpar : ((List.range k).all fun j => decide (j < par.getD j 0) && (decide (par.getD j 0 ≤ k) && waitsFor ops (par.getD j 0) j)) = true)
    (htail : ((List.range n).all fun i => decide (i ≤ k) || waitsFor ops i (i - 1)) = true)
    (hstep : ∀ i, i < k → ∀ (a : Act) (w : World), Below wr.heap.size wr w → (∀ s ∈ reads.getD i [], a.eval (.tmp s) = lkp l0 ((s0, v0) :: post) s) → ∀ (Q : Exit → Act → World → Prop) (K : Act → World → Prop), (∀ w', w.grownBy w' none → K (a.put (some (((s0, v0) :: post).getD i (0, undef)).1) (((s0, v0) :: post).getD i (0, undef)).2) w') → wpOp P ops Q i K a w)
    (hlast : ∀ w, Below wr.heap.size wr w → tailWp P ops Q (List.range' k (n - k)) { tmps := (setAll l0 ((s0, v0) :: post)).toArray, defers := [] } w) :
    (Code.region id ops true).wp P Q { tmps := l0.toArray, defers := [] } wr := by
  refine region_growU n k 0 [] s0 post reads par (fun x _ => x = v0) wr hm hn hkn rfl hdk hnd hdN havail htopo hrN hpar htail (fun _ _ _ h _ => h) ?_ ?_
  · intro i hi x a w hb hx hr Q K hK1 hK
    refine hstep i hi a w hb (fun s hs => ?_) Q K (fun w' hg => ?_)
    · rw [hr s hs]
      by_cases e : s = s0
      · subst e
        rw [hx hs]
        rfl
      · exact lkp_mid s0 post x v0 [] s e
    · by_cases e : i = 0
      · subst e
        exact hK1 rfl v0 w' hg rfl
      · have := hK e w' hg
        obtain ⟨j, rfl⟩ : ∃ j, i = j + 1 := ⟨i - 1, by omega⟩
        exact this
  · intro x w hb hx
    subst hx
    exact hlast w hb

theorem grownL (w : World) : w.grownBy w none := ⟨rfl, rfl, rfl, Nat.le_refl _, fun _ _ _ => rfl⟩

theorem op_callL {ops : Array Oper} {Q : Exit → Act → World → Prop} {i f : Nat} {o : Oper} {a : Act} {w : World} {xs : Array Operand} {us : Array Value} {ts : Array TypeId} {K : Act → World → Prop} {R : Ending → World → Prop} (hi : ops[i]? = some o) {oj : Oper} {j s : Nat} {want : Bool} (hg : o.guard = some (j, want)) (hj : ops[j]? = some oj) (hd : oj.dst = some s) (hs : a.eval (.tmp s) = .bool want) (hop : o.op = .call { callee := .value (.func f), args := xs, argTypes := ts })
    (he : Enters Tryd.prog f) (hx : xs.map a.eval = us) (hc : Calls Tryd.prog f us w R) (hR : ∀ e w', R e w' → ∃ r, e = .returned r ∧ K (a.put o.dst r) w') : wpOp Tryd.prog ops Q i K a w := by
  unfold wpOp
  rw [hi]
  have hw := wanted_of hg hj hd hs
  simp only [hw, if_true, Oper.wp]
  left
  have hrun : (execOp a.eval o).run Tryd.prog w = .ok (.enter f us) w := by
    unfold execOp
    simp only [hop]
    have := he us w
    have hfn : a.eval (.func f) = .func (.func f) #[] #[] := rfl
    simp [resolve, invoke, hx, hfn, Deferred.ofValue, this]
  rw [hrun, Oper.upon_enter]
  refine hc.mono fun e w' h => ?_
  obtain ⟨r, rfl, hK⟩ := hR e w' h
  exact hK

theorem op_callNL {ops : Array Oper} {Q : Exit → Act → World → Prop} {i f : Nat} {o : Oper} {a : Act} {w : World} {xs : Array Operand} {us : Array Value} {ts : Array TypeId} {K : Act → World → Prop} {R : Ending → World → Prop} (hi : ops[i]? = some o) (hg : o.guard = none) (hop : o.op = .call { callee := .value (.func f), args := xs, argTypes := ts })
    (he : Enters Tryd.prog f) (hx : xs.map a.eval = us) (hc : Calls Tryd.prog f us w R) (hR : ∀ e w', R e w' → ∃ r, e = .returned r ∧ K (a.put o.dst r) w') : wpOp Tryd.prog ops Q i K a w := by
  unfold wpOp
  rw [hi]
  have hw : Region.wanted o (yielded ops a.tmps) = true := by simp [Region.wanted, hg]
  simp only [hw, if_true, Oper.wp]
  left
  have hrun : (execOp a.eval o).run Tryd.prog w = .ok (.enter f us) w := by
    unfold execOp
    simp only [hop]
    have := he us w
    have hfn : a.eval (.func f) = .func (.func f) #[] #[] := rfl
    simp [resolve, invoke, hx, hfn, Deferred.ofValue, this]
  rw [hrun, Oper.upon_enter]
  refine hc.mono fun e w' h => ?_
  obtain ⟨r, rfl, hK⟩ := hR e w' h
  exact hK

theorem run_assignL {ρ : Operand → Value} {P : Program} (w : World) {o : Oper} {x : Operand} {v : Value} (ho : o.op = .assign x) (h : ρ x = v) : (execOp ρ o).run P w = .ok (.value v) w := by
  unfold execOp
  simp only [ho, h]
  simp [go_sem]

theorem run_nilL {ρ : Operand → Value} {P : Program} (w : World) {o : Oper} {x : Operand} {a : Addr} (ho : o.op = .nilCheck x) (h : ρ x = .pointer (some a)) : (execOp ρ o).run P w = .ok (.value (.pointer (some a))) w := by
  unfold execOp
  simp only [ho, h]
  simp [go_sem]

theorem map2L {f : Operand → Value} {x y : Operand} {p q : Value} (h1 : f x = p) (h2 : f y = q) : (#[x, y] : Array Operand).map f = #[p, q] := by simp [h1, h2]

theorem map3L {f : Operand → Value} {x y z : Operand} {p q r : Value} (h1 : f x = p) (h2 : f y = q) (h3 : f z = r) : (#[x, y, z] : Array Operand).map f = #[p, q, r] := by simp [h1, h2, h3]

def RsAt (Rs : List (Value → World → Prop)) (j : Nat) : Value → World → Prop := Rs.getD j fun _ _ => True

def MonoR (R : Value → World → Prop) : Prop := ∀ x w w', R x w → w.grownBy w' none → R x w'

theorem rsAt_mono {Rs : List (Value → World → Prop)} (h : ∀ R ∈ Rs, MonoR R) (j : Nat) (x : Value) (w w' : World) (hx : RsAt Rs j x w) (hg : w.grownBy w' none) : RsAt Rs j x w' := by
  unfold RsAt at *
  by_cases hj : j < Rs.length
  · have e : Rs.getD j (fun _ _ => True) = Rs[j] := by simp [List.getD, hj]
    rw [e] at hx ⊢
    exact h _ (List.getElem_mem hj) x w w' hx hg
  · have e : Rs.getD j (fun _ _ => True) = fun _ _ => True := by simp [List.getD, Nat.le_of_not_lt hj]
    rw [e]
    trivial

theorem below_of_grown {w w' : World} (h : w.grownBy w' none) : Below w.heap.size w w' := ⟨h.os, h.tape, h.output, h.size, fun k hk => h.block k hk (fun e => by cases e)⟩

theorem region_each {P : Program} {ops : Array Oper} {id : Nat} {l0 : List Value} {Q : Exit → Act → World → Prop} (n k : Nat) (dst : List Nat) (reads : List (List Nat)) (par : List Nat) (Rs : List (Value → World → Prop)) (wr : World) (hm : P.follows .mixedOrders = true) (hn : ops.size = n) (hkn : k < n)
    (hdk : dst.length = k) (hnd : dst.Nodup) (hdN : (dst.all fun s => decide (s < l0.length)) = true)
    (havail : ((List.range k).all fun i => (reads.getD i []).all fun s => (List.range k).all fun j => (dst.getD j 0 != s) || waitsFor ops i j) = true) (htopo : ((List.range n).all fun i => laterNone ops i) = true)
    (hrN : ((List.range k).all fun i => (reads.getD i []).all fun s => decide (s < l0.length)) = true)
    (hpar : ((List.range k).all fun j => decide (j < par.getD j 0) && (decide (par.getD j 0 ≤ k) && waitsFor ops (par.getD j 0) j)) = true) (htail : ((List.range n).all fun i => decide (i ≤ k) || waitsFor ops i (i - 1)) = true)
    (hmono : ∀ R ∈ Rs, MonoR R)
    (hstep : ∀ i, i < k → ∀ (σ : Nat → Value) (a : Act) (w : World), Below wr.heap.size wr w → (∀ j, j < k → waitsFor ops i j = true → RsAt Rs j (σ j) w) → (∀ s ∈ reads.getD i [], a.eval (.tmp s) = lkp l0 (tbS dst k σ) s) → ∀ (Q : Exit → Act → World → Prop) (K : Act → World → Prop), (∀ x w', w.grownBy w' none → RsAt Rs i x w' → K (a.put (some (dst.getD i 0)) x) w') → wpOp P ops Q i K a w)
    (hlast : ∀ (σ : Nat → Value) w, Below wr.heap.size wr w → (∀ j, j < k → RsAt Rs j (σ j) w) → tailWp P ops Q (List.range' k (n - k)) { tmps := (setAll l0 (tbS dst k σ)).toArray, defers := [] } w) :
    (Code.region id ops true).wp P Q { tmps := l0.toArray, defers := [] } wr :=
  region_sig n k dst reads par (fun j σ w => RsAt Rs j (σ j) w) wr hm hn hkn hdk hnd hdN havail htopo hrN hpar htail
    (fun j _ σ σ' w he h => by have e := he j (Or.inl rfl); show RsAt Rs j (σ' j) w; rw [← e]; exact h) (fun j σ w w' h hg => rsAt_mono hmono j (σ j) w w' h hg)
    (fun i hi σ a w hb hp hr Q K hK => hstep i hi σ a w hb hp hr Q K (fun x w' hg hx => hK x w' hg (fun σ' _ e => by show RsAt Rs i (σ' i) w'; rw [e]; exact hx))) hlast

/-- What may be known of a value. -/
def eqR (v : Value) : Value → World → Prop := fun x _ => x = v

theorem eqR_mono (v : Value) : MonoR (eqR v) := fun _ _ _ h _ => h

theorem run_extractL {ρ : Operand → Value} {P : Program} (w : World) {o : Oper} {x : Operand} {vs : Array Value} {i : Nat} {v : Value} (ho : o.op = .extract x i) (h : ρ x = .tuple vs) (hv : vs[i]? = some v) : (execOp ρ o).run P w = .ok (.value v) w := by
  unfold execOp
  simp only [ho, h]
  simp [go_sem, hv]

theorem map1L {f : Operand → Value} {x : Operand} {p : Value} (h1 : f x = p) : (#[x] : Array Operand).map f = #[p] := by simp [h1]

theorem grown_allocL (w : World) (o : Obj) : w.grownBy (w.alloc o) none := ⟨rfl, rfl, rfl, by simp, fun k hk _ => Below.heap_alloc _ _ _ hk⟩

theorem op_skipL {P : Program} {ops : Array Oper} {Q : Exit → Act → World → Prop} {i : Nat} {o : Oper} {a : Act} {w w' : World} {K : Act → World → Prop} (hi : ops[i]? = some o) (hg : o.guard = none)
    (hrun : (execOp a.eval o).run P w = .ok .skip w') (hK : K (a.put o.dst undef) w') : wpOp P ops Q i K a w := by
  unfold wpOp
  rw [hi]
  have hw : Region.wanted o (yielded ops a.tmps) = true := by simp [Region.wanted, hg]
  simp only [hw, if_true, Oper.wp]
  left
  rw [hrun]
  exact hK

end Go.Proofs.YtmdfjhnibhmdkafDoor
