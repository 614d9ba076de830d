import Derived.Test.YtdgdklmgnnhadafK28
import Derived.Test.YtdgdklmgnnhadafK29
import Derived.Shelf.Abstract
namespace Go.Proofs.Ytdgdklmgnnhadaf
open Go.ChangeShapes Go.WideShapes Go.ChangeAt Go.RowKit
set_option maxHeartbeats 1000000 in
theorem region_knownL {P : Program} {ops : Array Oper} {id : Nat} {l0 : List Value} {Q : Exit → Act → World → Prop} (n k : Nat) (s0 : Nat) (v0 : Value) (post : List (Nat × Value)) (reads : List (List Nat)) (par : List Nat) (wr : World) (hm : P.follows .mixedOrders = true) (hn : ops.size = n) (hkn : k < n)
    (hdk : 0 + 1 + post.length = k) (hnd : (((s0, v0) :: post).map (·.1)).Nodup) (hdN : (((s0, v0) :: post).all fun q => decide (q.1 < l0.length)) = true)
    (havail : ((List.range k).all fun i => (reads.getD i []).all fun s => (List.range k).all fun j => ((((s0, undef) :: post).getD j (0, undef)).1 != s) || waitsFor ops i j) = true) (htopo : ((List.range n).all fun i => laterNone ops i) = true)
    (hrN : ((List.range k).all fun i => (reads.getD i []).all fun s => decide (s < l0.length)) = true)
    (hpar : ((List.range k).all fun j => decide (j < par.getD j 0) && (decide (par.getD j 0 ≤ k) && waitsFor ops (par.getD j 0) j)) = true)
    (htail : ((List.range n).all fun i => decide (i ≤ k) || waitsFor ops i (i - 1)) = true)
    (hstep : ∀ i, i < k → ∀ (a : Act) (w : World), Below wr.heap.size wr w → (∀ s ∈ reads.getD i [], a.eval (.tmp s) = lkp l0 ((s0, v0) :: post) s) → ∀ (Q : Exit → Act → World → Prop) (K : Act → World → Prop), (∀ w', w.grownBy w' none → K (a.put (some (((s0, v0) :: post).getD i (0, undef)).1) (((s0, v0) :: post).getD i (0, undef)).2) w') → wpOp P ops Q i K a w)
    (hlast : ∀ w, Below wr.heap.size wr w → tailWp P ops Q (List.range' k (n - k)) { tmps := (setAll l0 ((s0, v0) :: post)).toArray, defers := [] } w) :
    (Code.region id ops true).wp P Q { tmps := l0.toArray, defers := [] } wr := by
  refine region_growU n k 0 [] s0 post reads par (fun x _ => x = v0) wr hm hn hkn rfl hdk hnd hdN havail htopo hrN hpar htail (fun _ _ _ h _ => h) ?_ ?_
  · intro i hi x a w hb hx hr Q K hK1 hK
    refine hstep i hi a w hb (fun s hs => ?_) Q K (fun w' hg => ?_)
    · rw [hr s hs]
      by_cases e : s = s0
      · subst e
        rw [hx hs]
        rfl
      · exact lkp_mid s0 post x v0 [] s e
    · by_cases e : i = 0
      · subst e
        exact hK1 rfl v0 w' hg rfl
      · have := hK e w' hg
        obtain ⟨j, rfl⟩ : ∃ j, i = j + 1 := ⟨i - 1, by omega⟩
        exact this
  · intro x w hb hx
    subst hx
    exact hlast w hb
theorem op_callNL {ops : Array Oper} {Q : Exit → Act → World → Prop} {i f : Nat} {o : Oper} {a : Act} {w : World} {xs : Array Operand} {us : Array Value} {ts : Array TypeId} {K : Act → World → Prop} {R : Ending → World → Prop} (hi : ops[i]? = some o) (hg : o.guard = none) (hop : o.op = .call { callee := .value (.func f), args := xs, argTypes := ts })
    (he : Enters Try.prog f) (hx : xs.map a.eval = us) (hc : Calls Try.prog f us w R) (hR : ∀ e w', R e w' → ∃ r, e = .returned r ∧ K (a.put o.dst r) w') : wpOp Try.prog ops Q i K a w := by
  unfold wpOp
  rw [hi]
  have hw : Region.wanted o (yielded ops a.tmps) = true := by simp [Region.wanted, hg]
  simp only [hw, if_true, Oper.wp]
  left
  have hrun : (execOp a.eval o).run Try.prog w = .ok (.enter f us) w := by
    unfold execOp
    simp only [hop]
    have := he us w
    have hfn : a.eval (.func f) = .func (.func f) #[] #[] := rfl
    simp [resolve, invoke, hx, hfn, Deferred.ofValue, this]
  rw [hrun, Oper.upon_enter]
  refine hc.mono fun e w' h => ?_
  obtain ⟨r, rfl, hK⟩ := hR e w' h
  exact hK
theorem run_nilL {ρ : Operand → Value} {P : Program} (w : World) {o : Oper} {x : Operand} {a : Addr} (ho : o.op = .nilCheck x) (h : ρ x = .pointer (some a)) : (execOp ρ o).run P w = .ok (.value (.pointer (some a))) w := by
  unfold execOp
  simp only [ho, h]
  simp [go_sem]
theorem map2L {f : Operand → Value} {x y : Operand} {p q : Value} (h1 : f x = p) (h2 : f y = q) : (#[x, y] : Array Operand).map f = #[p, q] := by simp [h1, h2]
def RsAt (Rs : List (Value → World → Prop)) (j : Nat) : Value → World → Prop := Rs.getD j fun _ _ => True
def MonoR (R : Value → World → Prop) : Prop := ∀ x w w', R x w → w.grownBy w' none → R x w'
theorem rsAt_mono {Rs : List (Value → World → Prop)} (h : ∀ R ∈ Rs, MonoR R) (j : Nat) (x : Value) (w w' : World) (hx : RsAt Rs j x w) (hg : w.grownBy w' none) : RsAt Rs j x w' := by
  unfold RsAt at *
  by_cases hj : j < Rs.length
  · have e : Rs.getD j (fun _ _ => True) = Rs[j] := by simp [List.getD, hj]
    rw [e] at hx ⊢
    exact h _ (List.getElem_mem hj) x w w' hx hg
  · have e : Rs.getD j (fun _ _ => True) = fun _ _ => True := by simp [List.getD, Nat.le_of_not_lt hj]
    rw [e]
    trivial
theorem region_each {P : Program} {ops : Array Oper} {id : Nat} {l0 : List Value} {Q : Exit → Act → World → Prop} (n k : Nat) (dst : List Nat) (reads : List (List Nat)) (par : List Nat) (Rs : List (Value → World → Prop)) (wr : World) (hm : P.follows .mixedOrders = true) (hn : ops.size = n) (hkn : k < n)
    (hdk : dst.length = k) (hnd : dst.Nodup) (hdN : (dst.all fun s => decide (s < l0.length)) = true)
    (havail : ((List.range k).all fun i => (reads.getD i []).all fun s => (List.range k).all fun j => (dst.getD j 0 != s) || waitsFor ops i j) = true) (htopo : ((List.range n).all fun i => laterNone ops i) = true)
    (hrN : ((List.range k).all fun i => (reads.getD i []).all fun s => decide (s < l0.length)) = true)
    (hpar : ((List.range k).all fun j => decide (j < par.getD j 0) && (decide (par.getD j 0 ≤ k) && waitsFor ops (par.getD j 0) j)) = true) (htail : ((List.range n).all fun i => decide (i ≤ k) || waitsFor ops i (i - 1)) = true)
    (hmono : ∀ R ∈ Rs, MonoR R)
    (hstep : ∀ i, i < k → ∀ (σ : Nat → Value) (a : Act) (w : World), Below wr.heap.size wr w → (∀ j, j < k → waitsFor ops i j = true → RsAt Rs j (σ j) w) → (∀ s ∈ reads.getD i [], a.eval (.tmp s) = lkp l0 (tbS dst k σ) s) → ∀ (Q : Exit → Act → World → Prop) (K : Act → World → Prop), (∀ x w', w.grownBy w' none → RsAt Rs i x w' → K (a.put (some (dst.getD i 0)) x) w') → wpOp P ops Q i K a w)
    (hlast : ∀ (σ : Nat → Value) w, Below wr.heap.size wr w → (∀ j, j < k → RsAt Rs j (σ j) w) → tailWp P ops Q (List.range' k (n - k)) { tmps := (setAll l0 (tbS dst k σ)).toArray, defers := [] } w) :
    (Code.region id ops true).wp P Q { tmps := l0.toArray, defers := [] } wr :=
  region_sig n k dst reads par (fun j σ w => RsAt Rs j (σ j) w) wr hm hn hkn hdk hnd hdN havail htopo hrN hpar htail
    (fun j _ σ σ' w he h => by have e := he j (Or.inl rfl); show RsAt Rs j (σ' j) w; rw [← e]; exact h) (fun j σ w w' h hg => rsAt_mono hmono j (σ j) w w' h hg)
    (fun i hi σ a w hb hp hr Q K hK => hstep i hi σ a w hb hp hr Q K (fun x w' hg hx => hK x w' hg (fun σ' _ e => by show RsAt Rs i (σ' i) w'; rw [e]; exact hx))) hlast
theorem map1L {f : Operand → Value} {x : Operand} {p : Value} (h1 : f x = p) : (#[x] : Array Operand).map f = #[p] := by simp [h1]
theorem op_skipL {P : Program} {ops : Array Oper} {Q : Exit → Act → World → Prop} {i : Nat} {o : Oper} {a : Act} {w w' : World} {K : Act → World → Prop} (hi : ops[i]? = some o) (hg : o.guard = none)
    (hrun : (execOp a.eval o).run P w = .ok .skip w') (hK : K (a.put o.dst undef) w') : wpOp P ops Q i K a w := by
  unfold wpOp
  rw [hi]
  have hw : Region.wanted o (yielded ops a.tmps) = true := by simp [Region.wanted, hg]
  simp only [hw, if_true, Oper.wp]
  left
  rw [hrun]
  exact hK
end Go.Proofs.Ytdgdklmgnnhadaf
namespace Go.Proofs.Ytdgdklmgnnhadaf
open Go.ChangeShapes Go.WideShapes Go.ChangeAt Go.RowKit
theorem tbS_known {tb : List (Nat × Value)} {k : Nat} {σ : Nat → Value} (hk : tb.length = k) (h : ∀ j, j < k → σ j = (tb.getD j (0, undef)).2) : tbS (tb.map (·.1)) k σ = tb := by
  unfold tbS
  refine List.ext_getElem (by simp [hk]) fun i h1 h2 => ?_
  have hi : i < k := by omega
  simp only [List.getElem_map, List.getElem_range]
  rw [h i hi]
  simp [List.getD, h2]
set_option maxHeartbeats 1000000 in
theorem region_knownU {P : Program} {ops : Array Oper} {id : Nat} {l0 : List Value} {Q : Exit → Act → World → Prop} (n k u : Nat) (S : List Nat) (U : World → Prop) (tb : List (Nat × Value)) (reads : List (List Nat)) (par : List Nat) (wr : World) (hm : P.follows .mixedOrders = true) (hn : ops.size = n) (hkn : k < n)
    (hdk : tb.length = k) (hnd : (tb.map (·.1)).Nodup) (hdN : ((tb.map (·.1)).all fun s => decide (s < l0.length)) = true)
    (havail : ((List.range k).all fun i => (reads.getD i []).all fun s => (List.range k).all fun j => ((tb.map (·.1)).getD j 0 != s) || waitsFor ops i j) = true) (htopo : ((List.range n).all fun i => laterNone ops i) = true)
    (hrN : ((List.range k).all fun i => (reads.getD i []).all fun s => decide (s < l0.length)) = true)
    (hpar : ((List.range k).all fun j => decide (j < par.getD j 0) && (decide (par.getD j 0 ≤ k) && waitsFor ops (par.getD j 0) j)) = true) (htail : ((List.range n).all fun i => decide (i ≤ k) || waitsFor ops i (i - 1)) = true)
    (hU : ∀ w w', U w → Kept [] w w' → U w')
    (hstep : ∀ i, i < k → i ≠ u → ∀ (a : Act) (w : World), Kept S wr w → (∀ s ∈ reads.getD i [], a.eval (.tmp s) = lkp l0 tb s) → ∀ (Q : Exit → Act → World → Prop) (K : Act → World → Prop), (∀ w', Kept [] w w' → K (a.put (some (tb.getD i (0, undef)).1) (tb.getD i (0, undef)).2) w') → wpOp P ops Q i K a w)
    (hstepU : u < k → ∀ (a : Act) (w : World), Below wr.heap.size wr w → (∀ s ∈ reads.getD u [], a.eval (.tmp s) = lkp l0 tb s) → ∀ (Q : Exit → Act → World → Prop) (K : Act → World → Prop), (∀ w', Kept S w w' → U w' → K (a.put (some (tb.getD u (0, undef)).1) (tb.getD u (0, undef)).2) w') → wpOp P ops Q u K a w)
    (hlast : ∀ w, Kept S wr w → (u < k → U w) → tailWp P ops Q (List.range' k (n - k)) { tmps := (setAll l0 tb).toArray, defers := [] } w) :
    (Code.region id ops true).wp P Q { tmps := l0.toArray, defers := [] } wr := by
  have hfst : ∀ j, (tb.map (·.1)).getD j 0 = (tb.getD j (0, undef)).1 := fun j => by
    by_cases hj : j < tb.length
    · simp [List.getD, hj]
    · simp [List.getD, Nat.le_of_not_lt hj]
  have hrd : ∀ i, i < k → ∀ (σ : Nat → Value), (∀ j, j < k → waitsFor ops i j = true → σ j = (tb.getD j (0, undef)).2) → ∀ s ∈ reads.getD i [], lkp l0 (tbS (tb.map (·.1)) k σ) s = lkp l0 tb s := by
    intro i hi σ hσ s hs
    by_cases hex : ∃ j, j < k ∧ (tb.map (·.1)).getD j 0 = s
    · obtain ⟨j, hj, rfl⟩ := hex
      have h1 := List.all_eq_true.1 (List.all_eq_true.1 (List.all_eq_true.1 havail i (List.mem_range.2 hi)) _ hs) j (List.mem_range.2 hj)
      have hw : waitsFor ops i j = true := by simpa using h1
      rw [lkp_tbS σ (by simp [hdk]) hnd hj, hσ j hj hw, hfst, lkp_at l0 tb hnd j (by omega)]
    · rw [lkp_tbS_none σ (fun j hj e => hex ⟨j, hj, e⟩)]
      refine (lkp_none tb s fun q hq e => ?_).symm
      obtain ⟨j, hj, rfl⟩ := List.getElem_of_mem hq
      exact hex ⟨j, by omega, by rw [hfst]; simp [List.getD, hj]; exact e⟩
  refine region_sigU n k u S (tb.map (·.1)) reads par (fun j σ w => σ j = (tb.getD j (0, undef)).2 ∧ (j = u → U w)) wr hm hn hkn (by simp [hdk]) hnd hdN havail htopo hrN hpar htail ?_ ?_ ?_ ?_ ?_
  · intro j _ σ σ' w he h
    exact ⟨(he j (Or.inl rfl)).symm.trans h.1, h.2⟩
  · intro j σ w w' h hk
    exact ⟨h.1, fun e => hU w w' (h.2 e) hk⟩
  · intro j σ w w' hju h _
    exact ⟨h.1, fun e => absurd e hju⟩
  · intro i hi σ a w hk hb hp hr Q K hK
    have hr' : ∀ s ∈ reads.getD i [], a.eval (.tmp s) = lkp l0 tb s := fun s hs => (hr s hs).trans (hrd i hi σ (fun j hj hw => (hp j hj hw).1) s hs)
    by_cases hiu : i = u
    · subst hiu
      refine hstepU hi a w (hb rfl) hr' Q K (fun w' hk' hu => ?_)
      have := hK (tb.getD i (0, undef)).2 w' (by rw [if_pos rfl]; exact hk') (fun σ' _ hσ' => ⟨hσ', fun _ => hu⟩)
      rw [hfst] at this
      exact this
    · refine hstep i hi hiu a w hk hr' Q K (fun w' hk' => ?_)
      have := hK (tb.getD i (0, undef)).2 w' (by rw [if_neg hiu]; exact hk') (fun σ' _ hσ' => ⟨hσ', fun e => absurd e hiu⟩)
      rw [hfst] at this
      exact this
  · intro σ w hk hp
    rw [tbS_known hdk (fun j hj => (hp j hj).1)]
    exact hlast w hk (fun hu => (hp u hu).2 rfl)
theorem keptU (w : World) : Kept [] w w := Kept.refl _ w
end Go.Proofs.Ytdgdklmgnnhadaf
