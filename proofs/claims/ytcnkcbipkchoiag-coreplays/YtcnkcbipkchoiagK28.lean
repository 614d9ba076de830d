import Derived.Test.YtcnkcbipkchoiagK26
import Derived.Test.YtcnkcbipkchoiagK27
import Derived.Shelf.Abstract
import Derived.Test.YtcnkcbipkchoiagK24
namespace Go.Proofs.Ytcnkcbipkchoiag
open Go.ChangeShapes Go.WideShapes Go.ChangeAt Go.RowKit
set_option maxHeartbeats 1000000 in
theorem region_knownL {P : Program} {ops : Array Oper} {id : Nat} {l0 : List Value} {Q : Exit → Act → World → Prop} (n k : Nat) (s0 : Nat) (v0 : Value) (post : List (Nat × Value)) (reads : List (List Nat)) (par : List Nat) (wr : World) (hm : P.follows .mixedOrders = true) (hn : ops.size = n) (hkn : k < n)
    (hdk : 0 + 1 + post.length = k) (hnd : (((s0, v0) :: post).map (·.1)).Nodup) (hdN : (((s0, v0) :: post).all fun q => decide (q.1 < l0.length)) = true)
    (havail : ((List.range k).all fun i => (reads.getD i []).all fun s => (List.range k).all fun j => ((((s0, undef) :: post).getD j (0, undef)).1 != s) || waitsFor ops i j) = true) (htopo : ((List.range n).all fun i => laterNone ops i) = true)
    (hrN : ((List.range k).all fun i => (reads.getD i []).all fun s => decide (s < l0.length)) = true)
    (hpar : ((List.range k).all fun j => decide (j < par.getD j 0) && (decide (par.getD j 0 ≤ k) && waitsFor ops (par.getD j 0) j)) = true)
    (htail : ((List.range n).all fun i => decide (i ≤ k) || waitsFor ops i (i - 1)) = true)
    (hstep : ∀ i, i < k → ∀ (a : Act) (w : World), Below wr.heap.size wr w → (∀ s ∈ reads.getD i [], a.eval (.tmp s) = lkp l0 ((s0, v0) :: post) s) → ∀ (Q : Exit → Act → World → Prop) (K : Act → World → Prop), (∀ w', w.grownBy w' none → K (a.put (some (((s0, v0) :: post).getD i (0, undef)).1) (((s0, v0) :: post).getD i (0, undef)).2) w') → wpOp P ops Q i K a w)
    (hlast : ∀ w, Below wr.heap.size wr w → tailWp P ops Q (List.range' k (n - k)) { tmps := (setAll l0 ((s0, v0) :: post)).toArray, defers := [] } w) :
    (Code.region id ops true).wp P Q { tmps := l0.toArray, defers := [] } wr := by
  refine region_growU n k 0 [] s0 post reads par (fun x _ => x = v0) wr hm hn hkn rfl hdk hnd hdN havail htopo hrN hpar htail (fun _ _ _ h _ => h) ?_ ?_
  · intro i hi x a w hb hx hr Q K hK1 hK
    refine hstep i hi a w hb (fun s hs => ?_) Q K (fun w' hg => ?_)
    · rw [hr s hs]
      by_cases e : s = s0
      · subst e
        rw [hx hs]
        rfl
      · exact lkp_mid s0 post x v0 [] s e
    · by_cases e : i = 0
      · subst e
        exact hK1 rfl v0 w' hg rfl
      · have := hK e w' hg
        obtain ⟨j, rfl⟩ : ∃ j, i = j + 1 := ⟨i - 1, by omega⟩
        exact this
  · intro x w hb hx
    subst hx
    exact hlast w hb
theorem op_callNL {ops : Array Oper} {Q : Exit → Act → World → Prop} {i f : Nat} {o : Oper} {a : Act} {w : World} {xs : Array Operand} {us : Array Value} {ts : Array TypeId} {K : Act → World → Prop} {R : Ending → World → Prop} (hi : ops[i]? = some o) (hg : o.guard = none) (hop : o.op = .call { callee := .value (.func f), args := xs, argTypes := ts })
    (he : Enters Try.prog f) (hx : xs.map a.eval = us) (hc : Calls Try.prog f us w R) (hR : ∀ e w', R e w' → ∃ r, e = .returned r ∧ K (a.put o.dst r) w') : wpOp Try.prog ops Q i K a w := by
  unfold wpOp
  rw [hi]
  have hw : Region.wanted o (yielded ops a.tmps) = true := by simp [Region.wanted, hg]
  simp only [hw, if_true, Oper.wp]
  left
  have hrun : (execOp a.eval o).run Try.prog w = .ok (.enter f us) w := by
    unfold execOp
    simp only [hop]
    have := he us w
    have hfn : a.eval (.func f) = .func (.func f) #[] #[] := rfl
    simp [resolve, invoke, hx, hfn, Deferred.ofValue, this]
  rw [hrun, Oper.upon_enter]
  refine hc.mono fun e w' h => ?_
  obtain ⟨r, rfl, hK⟩ := hR e w' h
  exact hK
theorem run_assignL {ρ : Operand → Value} {P : Program} (w : World) {o : Oper} {x : Operand} {v : Value} (ho : o.op = .assign x) (h : ρ x = v) : (execOp ρ o).run P w = .ok (.value v) w := by
  unfold execOp
  simp only [ho, h]
  simp [go_sem]
theorem map2L {f : Operand → Value} {x y : Operand} {p q : Value} (h1 : f x = p) (h2 : f y = q) : (#[x, y] : Array Operand).map f = #[p, q] := by simp [h1, h2]
theorem map3L {f : Operand → Value} {x y z : Operand} {p q r : Value} (h1 : f x = p) (h2 : f y = q) (h3 : f z = r) : (#[x, y, z] : Array Operand).map f = #[p, q, r] := by simp [h1, h2, h3]
def RsAt (Rs : List (Value → World → Prop)) (j : Nat) : Value → World → Prop := Rs.getD j fun _ _ => True
def MonoR (R : Value → World → Prop) : Prop := ∀ x w w', R x w → w.grownBy w' none → R x w'
theorem rsAt_mono {Rs : List (Value → World → Prop)} (h : ∀ R ∈ Rs, MonoR R) (j : Nat) (x : Value) (w w' : World) (hx : RsAt Rs j x w) (hg : w.grownBy w' none) : RsAt Rs j x w' := by
  unfold RsAt at *
  by_cases hj : j < Rs.length
  · have e : Rs.getD j (fun _ _ => True) = Rs[j] := by simp [List.getD, hj]
    rw [e] at hx ⊢
    exact h _ (List.getElem_mem hj) x w w' hx hg
  · have e : Rs.getD j (fun _ _ => True) = fun _ _ => True := by simp [List.getD, Nat.le_of_not_lt hj]
    rw [e]
    trivial
theorem region_each {P : Program} {ops : Array Oper} {id : Nat} {l0 : List Value} {Q : Exit → Act → World → Prop} (n k : Nat) (dst : List Nat) (reads : List (List Nat)) (par : List Nat) (Rs : List (Value → World → Prop)) (wr : World) (hm : P.follows .mixedOrders = true) (hn : ops.size = n) (hkn : k < n)
    (hdk : dst.length = k) (hnd : dst.Nodup) (hdN : (dst.all fun s => decide (s < l0.length)) = true)
    (havail : ((List.range k).all fun i => (reads.getD i []).all fun s => (List.range k).all fun j => (dst.getD j 0 != s) || waitsFor ops i j) = true) (htopo : ((List.range n).all fun i => laterNone ops i) = true)
    (hrN : ((List.range k).all fun i => (reads.getD i []).all fun s => decide (s < l0.length)) = true)
    (hpar : ((List.range k).all fun j => decide (j < par.getD j 0) && (decide (par.getD j 0 ≤ k) && waitsFor ops (par.getD j 0) j)) = true) (htail : ((List.range n).all fun i => decide (i ≤ k) || waitsFor ops i (i - 1)) = true)
    (hmono : ∀ R ∈ Rs, MonoR R)
    (hstep : ∀ i, i < k → ∀ (σ : Nat → Value) (a : Act) (w : World), Below wr.heap.size wr w → (∀ j, j < k → waitsFor ops i j = true → RsAt Rs j (σ j) w) → (∀ s ∈ reads.getD i [], a.eval (.tmp s) = lkp l0 (tbS dst k σ) s) → ∀ (Q : Exit → Act → World → Prop) (K : Act → World → Prop), (∀ x w', w.grownBy w' none → RsAt Rs i x w' → K (a.put (some (dst.getD i 0)) x) w') → wpOp P ops Q i K a w)
    (hlast : ∀ (σ : Nat → Value) w, Below wr.heap.size wr w → (∀ j, j < k → RsAt Rs j (σ j) w) → tailWp P ops Q (List.range' k (n - k)) { tmps := (setAll l0 (tbS dst k σ)).toArray, defers := [] } w) :
    (Code.region id ops true).wp P Q { tmps := l0.toArray, defers := [] } wr :=
  region_sig n k dst reads par (fun j σ w => RsAt Rs j (σ j) w) wr hm hn hkn hdk hnd hdN havail htopo hrN hpar htail
    (fun j _ σ σ' w he h => by have e := he j (Or.inl rfl); show RsAt Rs j (σ' j) w; rw [← e]; exact h) (fun j σ w w' h hg => rsAt_mono hmono j (σ j) w w' h hg)
    (fun i hi σ a w hb hp hr Q K hK => hstep i hi σ a w hb hp hr Q K (fun x w' hg hx => hK x w' hg (fun σ' _ e => by show RsAt Rs i (σ' i) w'; rw [e]; exact hx))) hlast
end Go.Proofs.Ytcnkcbipkchoiag
namespace Go.Proofs.Ytcnkcbipkchoiag
open Go.ChangeShapes Go.WideShapes Go.ChangeAt Go.RowKit
theorem tbS_known {tb : List (Nat × Value)} {k : Nat} {σ : Nat → Value} (hk : tb.length = k) (h : ∀ j, j < k → σ j = (tb.getD j (0, undef)).2) : tbS (tb.map (·.1)) k σ = tb := by
  unfold tbS
  refine List.ext_getElem (by simp [hk]) fun i h1 h2 => ?_
  have hi : i < k := by omega
  simp only [List.getElem_map, List.getElem_range]
  rw [h i hi]
  simp [List.getD, h2]
set_option maxHeartbeats 1000000 in
theorem region_knownU {P : Program} {ops : Array Oper} {id : Nat} {l0 : List Value} {Q : Exit → Act → World → Prop} (n k u : Nat) (S : List Nat) (U : World → Prop) (tb : List (Nat × Value)) (reads : List (List Nat)) (par : List Nat) (wr : World) (hm : P.follows .mixedOrders = true) (hn : ops.size = n) (hkn : k < n)
    (hdk : tb.length = k) (hnd : (tb.map (·.1)).Nodup) (hdN : ((tb.map (·.1)).all fun s => decide (s < l0.length)) = true)
    (havail : ((List.range k).all fun i => (reads.getD i []).all fun s => (List.range k).all fun j => ((tb.map (·.1)).getD j 0 != s) || waitsFor ops i j) = true) (htopo : ((List.range n).all fun i => laterNone ops i) = true)
    (hrN : ((List.range k).all fun i => (reads.getD i []).all fun s => decide (s < l0.length)) = true)
    (hpar : ((List.range k).all fun j => decide (j < par.getD j 0) && (decide (par.getD j 0 ≤ k) && waitsFor ops (par.getD j 0) j)) = true) (htail : ((List.range n).all fun i => decide (i ≤ k) || waitsFor ops i (i - 1)) = true)
    (hU : ∀ w w', U w → Kept [] w w' → U w')
    (hstep : ∀ i, i < k → i ≠ u → ∀ (a : Act) (w : World), Kept S wr w → (∀ s ∈ reads.getD i [], a.eval (.tmp s) = lkp l0 tb s) → ∀ (Q : Exit → Act → World → Prop) (K : Act → World → Prop), (∀ w', Kept [] w w' → K (a.put (some (tb.getD i (0, undef)).1) (tb.getD i (0, undef)).2) w') → wpOp P ops Q i K a w)
    (hstepU : u < k → ∀ (a : Act) (w : World), Below wr.heap.size wr w → (∀ s ∈ reads.getD u [], a.eval (.tmp s) = lkp l0 tb s) → ∀ (Q : Exit → Act → World → Prop) (K : Act → World → Prop), (∀ w', Kept S w w' → U w' → K (a.put (some (tb.getD u (0, undef)).1) (tb.getD u (0, undef)).2) w') → wpOp P ops Q u K a w)
    (hlast : ∀ w, Kept S wr w → (u < k → U w) → tailWp P ops Q (List.range' k (n - k)) { tmps := (setAll l0 tb).toArray, defers := [] } w) :
    (Code.region id ops true).wp P Q { tmps := l0.toArray, defers := [] } wr := by
  have hfst : ∀ j, (tb.map (·.1)).getD j 0 = (tb.getD j (0, undef)).1 := fun j => by
    by_cases hj : j < tb.length
    · simp [List.getD, hj]
    · simp [List.getD, Nat.le_of_not_lt hj]
  have hrd : ∀ i, i < k → ∀ (σ : Nat → Value), (∀ j, j < k → waitsFor ops i j = true → σ j = (tb.getD j (0, undef)).2) → ∀ s ∈ reads.getD i [], lkp l0 (tbS (tb.map (·.1)) k σ) s = lkp l0 tb s := by
    intro i hi σ hσ s hs
    by_cases hex : ∃ j, j < k ∧ (tb.map (·.1)).getD j 0 = s
    · obtain ⟨j, hj, rfl⟩ := hex
      have h1 := List.all_eq_true.1 (List.all_eq_true.1 (List.all_eq_true.1 havail i (List.mem_range.2 hi)) _ hs) j (List.mem_range.2 hj)
      have hw : waitsFor ops i j = true := by simpa using h1
      rw [lkp_tbS σ (by simp [hdk]) hnd hj, hσ j hj hw, hfst, lkp_at l0 tb hnd j (by omega)]
    · rw [lkp_tbS_none σ (fun j hj e => hex ⟨j, hj, e⟩)]
      refine (lkp_none tb s fun q hq e => ?_).symm
      obtain ⟨j, hj, rfl⟩ := List.getElem_of_mem hq
      exact hex ⟨j, by omega, by rw [hfst]; simp [List.getD, hj]; exact e⟩
  refine region_sigU n k u S (tb.map (·.1)) reads par (fun j σ w => σ j = (tb.getD j (0, undef)).2 ∧ (j = u → U w)) wr hm hn hkn (by simp [hdk]) hnd hdN havail htopo hrN hpar htail ?_ ?_ ?_ ?_ ?_
  · intro j _ σ σ' w he h
    exact ⟨(he j (Or.inl rfl)).symm.trans h.1, h.2⟩
  · intro j σ w w' h hk
    exact ⟨h.1, fun e => hU w w' (h.2 e) hk⟩
  · intro j σ w w' hju h _
    exact ⟨h.1, fun e => absurd e hju⟩
  · intro i hi σ a w hk hb hp hr Q K hK
    have hr' : ∀ s ∈ reads.getD i [], a.eval (.tmp s) = lkp l0 tb s := fun s hs => (hr s hs).trans (hrd i hi σ (fun j hj hw => (hp j hj hw).1) s hs)
    by_cases hiu : i = u
    · subst hiu
      refine hstepU hi a w (hb rfl) hr' Q K (fun w' hk' hu => ?_)
      have := hK (tb.getD i (0, undef)).2 w' (by rw [if_pos rfl]; exact hk') (fun σ' _ hσ' => ⟨hσ', fun _ => hu⟩)
      rw [hfst] at this
      exact this
    · refine hstep i hi hiu a w hk hr' Q K (fun w' hk' => ?_)
      have := hK (tb.getD i (0, undef)).2 w' (by rw [if_neg hiu]; exact hk') (fun σ' _ hσ' => ⟨hσ', fun e => absurd e hiu⟩)
      rw [hfst] at this
      exact this
  · intro σ w hk hp
    rw [tbS_known hdk (fun j hj => (hp j hj).1)]
    exact hlast w hk (fun hu => (hp u hu).2 rfl)
theorem keptU (w : World) : Kept [] w w := Kept.refl _ w
end Go.Proofs.Ytcnkcbipkchoiag
namespace Go.Proofs.Ytcnkcbipkchoiag
open Go.ChangeShapes Go.WideShapes Go.ChangeAt Go.RowKit
theorem run_fdroamlawDeed1 {ρ : Operand → Value} (w : World) {o : Oper} {x : Operand} {g s : Nat} (ho : o.op = .fieldAddr 72 x 1) (h : ρ x = .pointer (some ⟨g, s, none⟩)) : (execOp ρ o).run Try.prog w = .ok (.value (.pointer (some ⟨g, s + 1, none⟩))) w := by
  unfold execOp
  simp only [ho, h]
  simp [go_sem]
theorem run_ldint {ρ : Operand → Value} (w : World) {o : Oper} {x : Operand} {g j : Nat} {v : Value} (ho : o.op = .load 3 x) (h : ρ x = .pointer (some ⟨g, j, none⟩)) (hc : w.cell? ⟨g, j, none⟩ = some v) : (execOp ρ o).run Try.prog w = .ok (.value v) w := by
  unfold execOp
  simp only [ho, h]
  simp [go_sem, hc]
theorem run_fdroamlawDeed2 {ρ : Operand → Value} (w : World) {o : Oper} {x : Operand} {g s : Nat} (ho : o.op = .fieldAddr 72 x 2) (h : ρ x = .pointer (some ⟨g, s, none⟩)) : (execOp ρ o).run Try.prog w = .ok (.value (.pointer (some ⟨g, s + 2, none⟩))) w := by
  unfold execOp
  simp only [ho, h]
  simp [go_sem]
theorem run_fdroamlawDeed3 {ρ : Operand → Value} (w : World) {o : Oper} {x : Operand} {g s : Nat} (ho : o.op = .fieldAddr 72 x 3) (h : ρ x = .pointer (some ⟨g, s, none⟩)) : (execOp ρ o).run Try.prog w = .ok (.value (.pointer (some ⟨g, s + 3, none⟩))) w := by
  unfold execOp
  simp only [ho, h]
  simp [go_sem]
theorem run_fdroamlawDeed4 {ρ : Operand → Value} (w : World) {o : Oper} {x : Operand} {g s : Nat} (ho : o.op = .fieldAddr 72 x 4) (h : ρ x = .pointer (some ⟨g, s, none⟩)) : (execOp ρ o).run Try.prog w = .ok (.value (.pointer (some ⟨g, s + 4, none⟩))) w := by
  unfold execOp
  simp only [ho, h]
  simp [go_sem]
theorem run_ldapiUsage {ρ : Operand → Value} (w : World) {o : Oper} {x : Operand} {g j : Nat} {v0 v1 v2 v3 : Value} (ho : o.op = .load 70 x) (h : ρ x = .pointer (some ⟨g, j, none⟩)) (c0 : w.cell? ⟨g, j, none⟩ = some v0) (c1 : w.cell? ⟨g, j + 1, none⟩ = some v1) (c2 : w.cell? ⟨g, j + 2, none⟩ = some v2) (c3 : w.cell? ⟨g, j + 3, none⟩ = some v3) : (execOp ρ o).run Try.prog w = .ok (.value (.agg #[v0, v1, v2, v3])) w := by
  unfold execOp
  simp only [ho, h]
  simp [go_sem, c0, c1, c2, c3]
theorem run_eqlapiErrno {ρ : Operand → Value} (w : World) {o : Oper} {x y : Operand} {p q : Int} (ho : o.op = .binOp .eql 24 x y 24) (h : ρ x = .int .i64 p) (h' : ρ y = .int .i64 q) : (execOp ρ o).run Try.prog w = .ok (.value (.bool (p == q))) w := by
  unfold execOp
  simp only [ho, h, h']
  simp [go_sem]
theorem Kept.cell_offD {S : List Nat} {w w' : World} (h : Kept S w w') {b j : Nat} {v : Value} (hc : w.cell? ⟨b, j, none⟩ = some v) (hb : b ∉ S) : w'.cell? ⟨b, j, none⟩ = some v := keptCellQ h hc hb
theorem setAll_app (l : List Value) (t : List (Nat × Value)) (s : Nat) (v : Value) : (setAll l t).set s v = setAll l (t ++ [(s, v)]) := (setAll_snoc t (s, v) l).symm
theorem map4L {f : Operand → Value} {x y z t : Operand} {p q r s : Value} (h1 : f x = p) (h2 : f y = q) (h3 : f z = r) (h4 : f t = s) : (#[x, y, z, t] : Array Operand).map f = #[p, q, r, s] := by simp [h1, h2, h3, h4]
structure DeedM where
  kind : Int
  who : Int
  a : Int
  b : Int
  g : Int
  t : Int
  y : Int
  f : Bool
def DeedM.zero : DeedM := ⟨0, 0, 0, 0, 0, 0, 0, false⟩
def DeedM.cells (d : DeedM) : List Value := [.int .i64 d.kind, .int .i64 d.who, .int .i64 d.a, .int .i64 d.b, .int .i64 d.g, .int .i64 d.t, .int .i64 d.y, .bool d.f]
def DeedM.ok (d : DeedM) : Prop := In64 d.kind ∧ In64 d.who ∧ In64 d.a ∧ In64 d.b ∧ In64 d.g ∧ In64 d.t ∧ In64 d.y
def DeedM.val (d : DeedM) : Value := .agg #[.int .i64 d.kind, .int .i64 d.who, .int .i64 d.a, .int .i64 d.b, .int .i64 d.g, .int .i64 d.t, .int .i64 d.y, .bool d.f]
def CoM.deed (m : CoM) (d : DeedM) : CoM := if d.kind = 0 then (m.join d.who d.a).m else if d.kind = 1 then (m.attach d.who d.a).m else if d.kind = 2 then (m.leave d.who).m else if d.kind = 3 then (m.sleep d.who).m else if d.kind = 4 then (m.wake d.who d.a).m else if d.kind = 5 then (m.hand d.who d.a d.b).m else if d.kind = 6 then m.lent' d.who else (m.report d.g d.t d.y d.f).m
def DeedPost (w0 : World) (c r : Nat) (m : CoM) (d : DeedM) (n : Nat) : Ending → World → Prop := fun e w' => e = .returned (.bool true) ∧ ∃ db, Dd w0 w' c r db 72 d.cells (m.deed d) (m.deed d) (n + 1) (n + 1)
end Go.Proofs.Ytcnkcbipkchoiag
