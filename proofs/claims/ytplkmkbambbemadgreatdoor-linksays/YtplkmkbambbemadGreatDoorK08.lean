import Derived.Test.YtplkmkbambbemadGreatDoorK07
import Derived.Test.YtplkmkbambbemadGreatDoorK01
import Derived.Test.YtplkmkbambbemadGreatDoorK02
import Derived.Laws.AppendOwnNone
import Derived.Maps.AppendAt
namespace Go.Proofs.YtplkmkbambbemadGreatDoor
open Go.ChangeShapes Go.WideShapes Go.ChangeAt Go.RowKit
theorem any_inv {P : Program} {ops : Array Oper} {Q : Exit → Act → World → Prop} (k : Nat) (Inv : (Nat → Bool) → Act → World → Prop) (hk : ops.size = k) (htopo : ∀ i, i < k → laterNone ops i = true)
    (hstep : ∀ (L : Nat → Bool) (a : Act) (w : World) (i : Nat), Inv L a w → i < k → L i = false → (∀ j, waitsFor ops i j = true → L j = true) → wpOp P ops Q i (fun a' w' => Inv (fun j => if j = i then true else L j) a' w') a w)
    (hdone : ∀ (L : Nat → Bool) (a : Act) (w : World), (∀ j, j < k → L j = true) → Inv L a w → Q .normal a w) :
    ∀ (fuel : Nat) (listed : Array Bool) (a : Act) (w : World), listed.size = k → listed.toList.count false ≤ fuel → Inv (fun j => listed.getD j false) a w → wpAny P .any ops Q fuel listed a w := by
  have hdn : ∀ (listed : Array Bool) (a : Act) (w : World), listed.size = k → Region.ready .any ops listed = [] → Inv (fun j => listed.getD j false) a w → Q .normal a w := by
    intro listed a w hls hr hi
    refine hdone _ a w (fun j hj => ?_) hi
    show listed.getD j false = true
    by_cases hex : ∃ i, i < k ∧ listed.getD i true = false
    · obtain ⟨i0, hi0⟩ := hex
      obtain ⟨i, ⟨hi1, hf⟩, hmin⟩ := least (p := fun i => i < k ∧ listed.getD i true = false) i0 hi0
      have : i ∈ Region.ready .any ops listed := ready_first (by omega) hf (fun j hj => by
        have hjs : j < listed.size := by omega
        cases hb : listed.getD j false with
        | true => rfl
        | false =>
          have h2 : listed.getD j true = false := by
            rw [Array.getD_eq_getD_getElem?, Array.getElem?_eq_getElem hjs] at hb ⊢
            simpa using hb
          exact absurd (show j < k ∧ listed.getD j true = false from ⟨by omega, h2⟩) (hmin j hj)) (htopo i hi1)
      rw [hr] at this
      cases this
    · have hjs : j < listed.size := by omega
      have h2 : listed.getD j true ≠ false := fun h => hex ⟨j, hj, h⟩
      rw [Array.getD_eq_getD_getElem?, Array.getElem?_eq_getElem hjs] at h2 ⊢
      simpa using h2
  intro fuel
  induction fuel with
  | zero =>
    intro listed a w hls hc hi
    have hr : Region.ready .any ops listed = [] := ready_done fun j hj => by
      have hjs : j < listed.size := by omega
      cases hb : listed.getD j true with
      | true => rfl
      | false =>
        have := count_set listed j hb
        omega
    exact ⟨hr, hdn listed a w hls hr hi⟩
  | succ fuel ih =>
    intro listed a w hls hc hi
    refine ⟨fun hr => hdn listed a w hls hr hi, fun i hir => ?_⟩
    obtain ⟨his, hiu⟩ := ready_un hir
    have hil : i < listed.size := by omega
    refine wpOp_mono (fun a' w' h => ?_) (hstep _ a w i hi (by omega) (by
      rw [Array.getD_eq_getD_getElem?, Array.getElem?_eq_getElem hil] at hiu
      show listed.getD i false = false
      rw [Array.getD_eq_getD_getElem?, Array.getElem?_eq_getElem hil]
      simpa using hiu) (fun j hj => ready_waits hir hj))
    refine ih _ a' w' (by rw [Array.size_setIfInBounds]; exact hls) (by have := count_set listed i hiu; omega) ?_
    have e : (fun j => (listed.setIfInBounds i true).getD j false) = fun j => if j = i then true else listed.getD j false := by
      funext j
      rw [getD_set]
      by_cases h1 : j = i
      · subst h1
        rw [if_pos ⟨rfl, hil⟩, if_pos rfl]
      · rw [if_neg (fun h => h1 h.1.symm), if_neg h1]
    rw [e]
    exact h
theorem region_inv {P : Program} {ops : Array Oper} {Q : Exit → Act → World → Prop} {id : Nat} (k : Nat) (Inv : (Nat → Bool) → Act → World → Prop) (a0 : Act) (w : World) (hm : P.follows .mixedOrders = true) (hk : ops.size = k) (htopo : ((List.range k).all fun i => laterNone ops i) = true)
    (h0 : Inv (fun _ => false) a0 w.drew)
    (hstep : ∀ (L : Nat → Bool) (a : Act) (w : World) (i : Nat), Inv L a w → i < k → L i = false → (∀ j, waitsFor ops i j = true → L j = true) → wpOp P ops Q i (fun a' w' => Inv (fun j => if j = i then true else L j) a' w') a w)
    (hdone : ∀ (L : Nat → Bool) (a : Act) (w : World), (∀ j, j < k → L j = true) → Inv L a w → Q .normal a w) : (Code.region id ops true).wp P Q a0 w := by
  refine wp_region_any hm ?_
  show wpAny P .any ops Q ops.size (Array.replicate ops.size false) a0 w.drew
  rw [hk]
  refine any_inv k Inv hk (fun i hi => List.all_eq_true.1 htopo i (List.mem_range.2 hi)) hstep hdone k _ a0 w.drew (by simp) (by simp) ?_
  have e : (fun j => (Array.replicate k false).getD j false) = fun _ : Nat => false := by
    funext j
    rw [Array.getD_eq_getD_getElem?, Array.getElem?_replicate]
    split <;> rfl
  rw [e]
  exact h0
theorem act_known (a : Act) (lst : List Value) (hs : a.tmps.size = lst.length) (hd : a.defers = []) (h : ∀ s : Nat, s < lst.length → a.eval (.tmp s) = lst.getD s undef) : a = { tmps := lst.toArray, defers := [] } := by
  obtain ⟨t, d⟩ := a
  simp only at hs hd
  subst hd
  congr 1
  refine Array.ext (by simpa using hs) fun i i1 i2 => ?_
  have hti : t[i] = t.getD i undef := by simp [Array.getD, i1]
  have := h i (by omega)
  have hev : ({ tmps := t, defers := [] } : Act).eval (.tmp i) = t.getD i undef := rfl
  rw [hti, ← hev, this]
  simp [List.getD, show i < lst.length by omega]
/-- A region each of whose operations has one answer, whatever the order; nothing that lay is changed. 'd': the slot that each writes; 'reads': the slots that each reads; 'lst': all slots behind it. -/
theorem region_known {P : Program} {ops : Array Oper} {id : Nat} (k : Nat) (d : List Nat) (reads : List (List Nat)) (lst : List Value) (a0 : Act) (wr : World) (hm : P.follows .mixedOrders = true) (hk : ops.size = k) (hd0 : a0.defers = []) (hsz : a0.tmps.size = lst.length)
    (hdN : ((List.range k).all fun i => decide (d.getD i 0 < lst.length)) = true) (havail : ((List.range k).all fun i => (reads.getD i []).all fun s => (List.range k).all fun j => (d.getD j 0 != s) || waitsFor ops i j) = true) (htopo : ((List.range k).all fun i => laterNone ops i) = true)
    (hrN : ((List.range k).all fun i => (reads.getD i []).all fun s => decide (s < lst.length)) = true)
    (h0 : ∀ s : Nat, s < lst.length → ((List.range k).all fun i => d.getD i 0 != s) = true → a0.eval (.tmp s) = lst.getD s undef)
    (hstep : ∀ i, i < k → ∀ (a : Act) (w : World), Below wr.heap.size wr w → (∀ s ∈ reads.getD i [], a.eval (.tmp s) = lst.getD s undef) → ∀ K : Act → World → Prop, (∀ w', Below wr.heap.size wr w' → K (a.put (some (d.getD i 0)) (lst.getD (d.getD i 0) undef)) w') → wpOp P ops (fun e a' w' => e = .normal ∧ a' = { tmps := lst.toArray, defers := [] } ∧ Below wr.heap.size wr w') i K a w) :
    (Code.region id ops true).wp P (fun e a' w' => e = .normal ∧ a' = { tmps := lst.toArray, defers := [] } ∧ Below wr.heap.size wr w') a0 wr := by
  have hdl : ∀ i, i < k → d.getD i 0 < lst.length := fun i hi => of_decide_eq_true (List.all_eq_true.1 hdN i (List.mem_range.2 hi))
  refine region_inv k (fun L a w => a.tmps.size = a0.tmps.size ∧ a.defers = [] ∧ Below wr.heap.size wr w ∧ ∀ s : Nat, s < lst.length → (∀ i, i < k → d.getD i 0 = s → L i = true) → a.eval (.tmp s) = lst.getD s undef) a0 wr hm hk htopo ?_ ?_ ?_
  · refine ⟨rfl, hd0, (Below.refl _ wr).drew, fun s hs h => h0 s hs (List.all_eq_true.2 fun i hi => ?_)⟩
    rw [bne_iff_ne]
    intro e
    have := h i (List.mem_range.1 hi) e
    cases this
  · rintro L a w i ⟨h1, h2, h3, h4⟩ hi hLi hw
    refine hstep i hi a w h3 (fun s hs => h4 s ?_ (fun j hj e => hw j ?_)) _ (fun w' hb => ⟨by simp [Act.put, h1], h2, hb, fun s hs h => ?_⟩)
    · exact of_decide_eq_true (List.all_eq_true.1 (List.all_eq_true.1 hrN i (List.mem_range.2 hi)) s hs)
    · have := List.all_eq_true.1 (List.all_eq_true.1 (List.all_eq_true.1 havail i (List.mem_range.2 hi)) s hs) j (List.mem_range.2 hj)
      rw [e] at this
      simpa using this
    · by_cases e : d.getD i 0 = s
      · subst e
        exact Act.eval_put_same a _ _ (by rw [h1, hsz]; exact hs)
      · rw [Act.eval_put_ne a _ _ _ e]
        refine h4 s hs (fun j hj ej => ?_)
        have : (if j = i then true else L j) = true := h j hj ej
        by_cases hji : j = i
        · subst hji; exact absurd ej e
        · rw [if_neg hji] at this; exact this
  · rintro L a w hL ⟨h1, h2, h3, h4⟩
    exact ⟨rfl, act_known a lst (h1.trans hsz) h2 (fun s hs => h4 s hs (fun i hi _ => hL i hi)), h3⟩
def setAll (l : List Value) : List (Nat × Value) → List Value
  | [] => l
  | q :: t => setAll (l.set q.1 q.2) t
theorem setAll_length (t : List (Nat × Value)) : ∀ l : List Value, (setAll l t).length = l.length := by
  induction t with
  | nil => intro l; rfl
  | cons q t ih => intro l; rw [setAll, ih, List.length_set]
theorem setAll_other (t : List (Nat × Value)) : ∀ (l : List Value) (s : Nat), (∀ q ∈ t, q.1 ≠ s) → (setAll l t).getD s undef = l.getD s undef := by
  induction t with
  | nil => intro l s _; rfl
  | cons q t ih =>
    intro l s h
    rw [setAll, ih _ s (fun q hq => h q (List.mem_cons_of_mem _ hq))]
    simp [List.getD, h q (by simp)]
/-- The same, by what each operation writes alone. -/
theorem region_known2 {P : Program} {ops : Array Oper} {id : Nat} {l0 : List Value} (k : Nat) (dv : List (Nat × Value)) (reads : List (List Nat)) (wr : World) (hm : P.follows .mixedOrders = true) (hk : ops.size = k) (hdk : dv.length = k)
    (hdN : ((List.range k).all fun i => decide ((dv.getD i (0, undef)).1 < l0.length)) = true) (havail : ((List.range k).all fun i => (reads.getD i []).all fun s => (List.range k).all fun j => ((dv.getD j (0, undef)).1 != s) || waitsFor ops i j) = true) (htopo : ((List.range k).all fun i => laterNone ops i) = true)
    (hrN : ((List.range k).all fun i => (reads.getD i []).all fun s => decide (s < l0.length)) = true)
    (hstep : ∀ i, i < k → ∀ (a : Act) (w : World), Below wr.heap.size wr w → (∀ s ∈ reads.getD i [], a.eval (.tmp s) = (setAll l0 dv).getD s undef) → ∀ K : Act → World → Prop, (∀ w', Below wr.heap.size wr w' → K (a.put (some (dv.getD i (0, undef)).1) ((setAll l0 dv).getD (dv.getD i (0, undef)).1 undef)) w') → wpOp P ops (fun e a' w' => e = .normal ∧ a' = { tmps := (setAll l0 dv).toArray, defers := [] } ∧ Below wr.heap.size wr w') i K a w) :
    (Code.region id ops true).wp P (fun e a' w' => e = .normal ∧ a' = { tmps := (setAll l0 dv).toArray, defers := [] } ∧ Below wr.heap.size wr w') { tmps := l0.toArray, defers := [] } wr := by
  have hd : ∀ i, i < k → (dv.map (·.1)).getD i 0 = (dv.getD i (0, undef)).1 := fun i hi => by simp [List.getD, show i < dv.length by omega]
  have hl := setAll_length dv l0
  have cong : ∀ (f g : Nat → Bool), (∀ i, i < k → f i = g i) → ((List.range k).all f) = ((List.range k).all g) := fun f g h => by
    rw [Bool.eq_iff_iff, List.all_eq_true, List.all_eq_true]
    exact ⟨fun h1 i hi => by rw [← h i (List.mem_range.1 hi)]; exact h1 i hi, fun h1 i hi => by rw [h i (List.mem_range.1 hi)]; exact h1 i hi⟩
  refine region_known k (dv.map (·.1)) reads (setAll l0 dv) _ wr hm hk rfl (by rw [hl]; simp) ?_ ?_ htopo (by rw [hl]; exact hrN) (fun s hs hall => ?_) (fun i hi a w hb hr K hK => hstep i hi a w hb hr K (by rw [hd i hi] at hK; exact hK))
  · rw [hl, ← hdN]
    exact cong _ _ (fun i hi => by rw [hd i hi])
  · rw [← havail]
    refine cong _ _ (fun i hi => ?_)
    congr 1
    funext s
    exact cong _ _ (fun j hj => by rw [hd j hj])
  · rw [setAll_other dv l0 s (fun q hq e => ?_)]
    · rw [hl] at hs
      simp [Act.eval, List.getD]
    · obtain ⟨i, hi, rfl⟩ := List.getElem_of_mem hq
      have := List.all_eq_true.1 hall i (List.mem_range.2 (by omega))
      simp [List.getD, hi] at this
      exact this e
theorem beq_ne {a b : Nat} (h : a ≠ b) : Nat.beq a b = false := by
  cases hb : Nat.beq a b with
  | false => rfl
  | true => exact absurd (Nat.eq_of_beq_eq_true hb) h
/-- What a slot holds behind it all. -/
def lkp (l0 : List Value) : List (Nat × Value) → Nat → Value
  | [], s => l0.getD s undef
  | q :: t, s => match Nat.beq q.1 s with
    | true => q.2
    | false => lkp l0 t s
theorem lkp_set {l0 : List Value} {i : Nat} {v : Value} : ∀ (t : List (Nat × Value)) (s : Nat), i ≠ s → lkp (l0.set i v) t s = lkp l0 t s
  | [], s, h => by simp [lkp, List.getD, h]
  | q :: t, s, h => by
    rw [lkp, lkp, lkp_set t s h]
theorem lkp_none {l0 : List Value} : ∀ (t : List (Nat × Value)) (s : Nat), (∀ q ∈ t, q.1 ≠ s) → lkp l0 t s = l0.getD s undef
  | [], s, _ => rfl
  | q :: t, s, h => by
    have h1 : Nat.beq q.1 s = false := beq_ne (h q (by simp))
    rw [lkp, h1]
    exact lkp_none t s (fun q hq => h q (List.mem_cons_of_mem _ hq))
theorem setAll_lkp (t : List (Nat × Value)) : ∀ (l0 : List Value) (s : Nat), (t.map (·.1)).Nodup → (∀ q ∈ t, q.1 < l0.length) → (setAll l0 t).getD s undef = lkp l0 t s := by
  induction t with
  | nil => intro l0 s _ _; rfl
  | cons q t ih =>
    intro l0 s hn hl
    rw [List.map_cons, List.nodup_cons] at hn
    rw [setAll, ih _ s hn.2 (fun p hp => by rw [List.length_set]; exact hl p (List.mem_cons_of_mem _ hp)), lkp]
    by_cases e : q.1 = s
    · subst e
      have h1 : Nat.beq q.1 q.1 = true := Nat.beq_refl q.1
      rw [h1, lkp_none t _ (fun p hp he => hn.1 (List.mem_map.2 ⟨p, hp, he⟩))]
      simp [List.getD, hl q (by simp)]
    · have h1 : Nat.beq q.1 s = false := beq_ne e
      rw [h1]
      exact lkp_set t s e
theorem lkp_at (l0 : List Value) (t : List (Nat × Value)) (hn : (t.map (·.1)).Nodup) : ∀ i, i < t.length → lkp l0 t (t.getD i (0, undef)).1 = (t.getD i (0, undef)).2 := by
  induction t with
  | nil => intro i hi; simp at hi
  | cons q t ih =>
    intro i hi
    rw [List.map_cons, List.nodup_cons] at hn
    cases i with
    | zero => simp [lkp, List.getD]
    | succ i =>
      have hi' : i < t.length := by simpa using hi
      have e : (q :: t).getD (i + 1) (0, undef) = t.getD i (0, undef) := by simp [List.getD]
      rw [e, lkp]
      have hm : (t.getD i (0, undef)) ∈ t := by
        have e2 : t.getD i (0, undef) = t[i] := by simp [List.getD, hi']
        rw [e2]
        exact List.getElem_mem hi'
      have h1 : Nat.beq q.1 (t.getD i (0, undef)).1 = false := beq_ne (fun h => hn.1 (List.mem_map.2 ⟨_, hm, h.symm⟩))
      rw [h1]
      exact ih hn.2 i hi'
/-- The same; what an operation reads is looked up among what was written, then in the frame. -/
theorem region_known3 {P : Program} {ops : Array Oper} {id : Nat} {l0 : List Value} (k : Nat) (dv : List (Nat × Value)) (reads : List (List Nat)) (wr : World) (hm : P.follows .mixedOrders = true) (hk : ops.size = k) (hdk : dv.length = k) (hnd : (dv.map (·.1)).Nodup)
    (hdN : ((List.range k).all fun i => decide ((dv.getD i (0, undef)).1 < l0.length)) = true) (havail : ((List.range k).all fun i => (reads.getD i []).all fun s => (List.range k).all fun j => ((dv.getD j (0, undef)).1 != s) || waitsFor ops i j) = true) (htopo : ((List.range k).all fun i => laterNone ops i) = true)
    (hrN : ((List.range k).all fun i => (reads.getD i []).all fun s => decide (s < l0.length)) = true)
    (hstep : ∀ i, i < k → ∀ (a : Act) (w : World), Below wr.heap.size wr w → (∀ s ∈ reads.getD i [], a.eval (.tmp s) = lkp l0 dv s) → ∀ (Q : Exit → Act → World → Prop) (K : Act → World → Prop), (∀ w', Below wr.heap.size wr w' → K (a.put (some (dv.getD i (0, undef)).1) (dv.getD i (0, undef)).2) w') → wpOp P ops Q i K a w) :
    (Code.region id ops true).wp P (fun e a' w' => e = .normal ∧ a' = { tmps := (setAll l0 dv).toArray, defers := [] } ∧ Below wr.heap.size wr w') { tmps := l0.toArray, defers := [] } wr := by
  have hlt : ∀ q ∈ dv, q.1 < l0.length := fun q hq => by
    obtain ⟨i, hi, rfl⟩ := List.getElem_of_mem hq
    have := of_decide_eq_true (List.all_eq_true.1 hdN i (List.mem_range.2 (by omega)))
    simpa [List.getD, hi] using this
  have hse : ∀ s, (setAll l0 dv).getD s undef = lkp l0 dv s := fun s => setAll_lkp dv l0 s hnd hlt
  refine region_known2 k dv reads wr hm hk hdk hdN havail htopo hrN (fun i hi a w hb hr K hK => hstep i hi a w hb (fun s hs => (hr s hs).trans (hse s)) _ K (fun w' hb' => ?_))
  have := hK w' hb'
  rw [hse, lkp_at l0 dv hnd i (by omega)] at this
  exact this
theorem op_value {P : Program} {ops : Array Oper} {Q : Exit → Act → World → Prop} {i : Nat} {o : Oper} {a : Act} {w w' : World} {v : Value} {K : Act → World → Prop} (hi : ops[i]? = some o) (hg : o.guard = none)
    (hrun : (execOp a.eval o).run P w = .ok (.value v) w') (hK : K (a.put o.dst v) w') : wpOp P ops Q i K a w := by
  unfold wpOp
  rw [hi]
  have hw : Region.wanted o (yielded ops a.tmps) = true := by simp [Region.wanted, hg]
  simp only [hw, if_true, Oper.wp]
  left
  rw [hrun]
  exact hK
end Go.Proofs.YtplkmkbambbemadGreatDoor
namespace Go.Proofs.YtplkmkbambbemadGreatDoor
open Go.ChangeShapes Go.WideShapes Go.ChangeAt Go.RowKit
theorem run_moveQ {ρ : Operand → Value} {P : Program} (w : World) {o : Oper} {x : Operand} {v : Value} (ho : o.op = .move x) (h : ρ x = v) : (execOp ρ o).run P w = .ok (.value v) w := by
  unfold execOp
  simp only [ho, h]
  simp [go_sem]
theorem run_loadI {ρ : Operand → Value} (w : World) {o : Oper} {x : Operand} {g j : Nat} {v : Value} (ho : o.op = .load 3 x) (h : ρ x = .pointer (some ⟨g, j, none⟩)) (hc : w.cell? ⟨g, j, none⟩ = some v) : (execOp ρ o).run Tryz.prog w = .ok (.value v) w := by
  unfold execOp
  simp only [ho, h]
  simp [go_sem, hc]
theorem run_loadB {ρ : Operand → Value} (w : World) {o : Oper} {x : Operand} {g j : Nat} {v : Value} (ho : o.op = .load 5 x) (h : ρ x = .pointer (some ⟨g, j, none⟩)) (hc : w.cell? ⟨g, j, none⟩ = some v) : (execOp ρ o).run Tryz.prog w = .ok (.value v) w := by
  unfold execOp
  simp only [ho, h]
  simp [go_sem, hc]
theorem run_loadSI {ρ : Operand → Value} (w : World) {o : Oper} {x : Operand} {g j : Nat} {v : Value} (ho : o.op = .load 23 x) (h : ρ x = .pointer (some ⟨g, j, none⟩)) (hc : w.cell? ⟨g, j, none⟩ = some v) : (execOp ρ o).run Tryz.prog w = .ok (.value v) w := by
  unfold execOp
  simp only [ho, h]
  simp [go_sem, hc]
theorem run_loadSB {ρ : Operand → Value} (w : World) {o : Oper} {x : Operand} {g j : Nat} {v : Value} (ho : o.op = .load 22 x) (h : ρ x = .pointer (some ⟨g, j, none⟩)) (hc : w.cell? ⟨g, j, none⟩ = some v) : (execOp ρ o).run Tryz.prog w = .ok (.value v) w := by
  unfold execOp
  simp only [ho, h]
  simp [go_sem, hc]
theorem run_idxI {ρ : Operand → Value} (w : World) {o : Oper} {x y : Operand} {g s j n c : Nat} (ho : o.op = .indexAddr 23 x y) (h : ρ x = .slice (some ⟨g, s, none⟩) n c) (h' : ρ y = .int .i64 j) (hj : j < n) : (execOp ρ o).run Tryz.prog w = .ok (.value (.pointer (some ⟨g, s + j, none⟩))) w := by
  unfold execOp
  simp only [ho, h, h']
  simp [go_sem, Tryz.underlying23, hj]
theorem run_idxB {ρ : Operand → Value} (w : World) {o : Oper} {x y : Operand} {g s j n c : Nat} (ho : o.op = .indexAddr 22 x y) (h : ρ x = .slice (some ⟨g, s, none⟩) n c) (h' : ρ y = .int .i64 j) (hj : j < n) : (execOp ρ o).run Tryz.prog w = .ok (.value (.pointer (some ⟨g, s + j, none⟩))) w := by
  unfold execOp
  simp only [ho, h, h']
  simp [go_sem, Tryz.underlying22, hj]
theorem run_addI {ρ : Operand → Value} (w : World) {o : Oper} {x y : Operand} {p q : Int} (ho : o.op = .binOp .add 3 x y 3) (h : ρ x = .int .i64 p) (h' : ρ y = .int .i64 q) (hw : IntKind.i64.wrap (p + q) = p + q) : (execOp ρ o).run Tryz.prog w = .ok (.value (.int .i64 (p + q))) w := by
  unfold execOp
  simp only [ho, h, h']
  simp [go_sem, hw]
theorem run_storeI {ρ : Operand → Value} (w : World) {o : Oper} {x y : Operand} {g j : Nat} {p q : Int} (ho : o.op = .store 3 x y) (h : ρ x = .pointer (some ⟨g, j, none⟩)) (h' : ρ y = .int .i64 q) (hc : w.cell? ⟨g, j, none⟩ = some (.int .i64 p)) (hf : w.frozen? ⟨g, j, none⟩ = false) : (execOp ρ o).run Tryz.prog w = .ok .skip (w.setCell ⟨g, j, none⟩ (.int .i64 q)) := by
  unfold execOp
  simp only [ho, h, h']
  simp [go_sem, hc, hf]
theorem run_storeB {ρ : Operand → Value} (w : World) {o : Oper} {x y : Operand} {g j : Nat} {p q : Int} (ho : o.op = .store 5 x y) (h : ρ x = .pointer (some ⟨g, j, none⟩)) (h' : ρ y = .int .u8 q) (hc : w.cell? ⟨g, j, none⟩ = some (.int .u8 p)) (hf : w.frozen? ⟨g, j, none⟩ = false) : (execOp ρ o).run Tryz.prog w = .ok .skip (w.setCell ⟨g, j, none⟩ (.int .u8 q)) := by
  unfold execOp
  simp only [ho, h, h']
  simp [go_sem, hc, hf]
end Go.Proofs.YtplkmkbambbemadGreatDoor
namespace Go.Proofs.YtplkmkbambbemadGreatDoor
open Go.ChangeShapes Go.WideShapes Go.ChangeAt Go.RowKit
theorem Tryz.infoB : (Tryz.prog.info? 22).map (fun i => (i.zero, i.size, i.bytes)) = some (some (.slice none 0 0), 1, 24) := by kernel_rfl
/-- A list of lists of one's own. -/
def OwnR (w : World) (B : Nat) (v : Value) (vs : List Value) : Prop := w.ownsRow B 22 1 v vs.length vs
theorem run_idxR {ρ : Operand → Value} (w : World) {o : Oper} {x y : Operand} {g s j n c : Nat} (ho : o.op = .indexAddr 157 x y) (h : ρ x = .slice (some ⟨g, s, none⟩) n c) (h' : ρ y = .int .i64 j) (hj : j < n) : (execOp ρ o).run Tryz.prog w = .ok (.value (.pointer (some ⟨g, s + j, none⟩))) w := by
  unfold execOp
  simp only [ho, h, h']
  simp [go_sem, Tryz.underlying157, hj]
theorem run_assignQ {ρ : Operand → Value} {P : Program} (w : World) {o : Oper} {x : Operand} {v : Value} (ho : o.op = .assign x) (h : ρ x = v) : (execOp ρ o).run P w = .ok (.value v) w := by
  unfold execOp
  simp only [ho, h]
  simp [go_sem]
theorem run_build1 {ρ : Operand → Value} (w : World) {o : Oper} {x : Int} (ho : o.op = .buildSlice 22 1 #[(0, .const (.int .u8 x))]) (h : ρ (.const (.int .u8 x)) = .int .u8 x) : (execOp ρ o).run Tryz.prog w = .ok (.value (.slice (some ⟨w.heap.size, 0, none⟩) 1 1)) (w.alloc (.cells #[.int .u8 x] 5)) := by
  unfold execOp
  simp only [ho]
  simp [go_sem, h]
theorem run_build2 {ρ : Operand → Value} (w : World) {o : Oper} {x y : Operand} {a b : Option Addr} {m n c d : Nat} (ho : o.op = .buildSlice 157 2 #[(0, x), (1, y)]) (h : ρ x = .slice a m c) (h' : ρ y = .slice b n d) : (execOp ρ o).run Tryz.prog w = .ok (.value (.slice (some ⟨w.heap.size, 0, none⟩) 2 2)) (w.alloc (.cells #[.slice a m c, .slice b n d] 22)) := by
  unfold execOp
  simp only [ho]
  simp [go_sem, h, h']
/-- 'append(x, y...)' of bytes: x of one's own, one byte more. -/
theorem run_push1 {ρ : Operand → Value} (w : World) {o : Oper} {x y : Operand} {B g : Nat} {v : Value} {L : List Int} {z : Int} (ho : o.op = .call { callee := .builtin .append, args := #[x, y], argTypes := #[22, 22] }) (h : ρ x = v) (h' : ρ y = .slice (some ⟨g, 0, none⟩) 1 1)
    (hown : Own w B v L) (hc : w.cell? ⟨g, 0, none⟩ = some (.int .u8 z)) (hl : L.length ≤ 100) (hB : B ≤ w.heap.size) : ∃ v' w', (execOp ρ o).run Tryz.prog w = .ok (.value v') w' ∧ Own w' B v' (L ++ [z]) ∧ w.grownBy w' v.ownBlock ∧ (v'.ownBlock = v.ownBlock ∨ v'.ownBlock = some w.heap.size) := by
  obtain ⟨i0, hi, hz0, hz1, hz2⟩ := info_parts Tryz.info5
  obtain ⟨v', w', hrun, h1, h2, _, h3⟩ := run_append_own_at (P := Tryz.prog) (w := w) B 22 o.type 5 i0 (.int .u8 0) 1 1 Tryz.underlying22 hi hz0 hz1 hz2 rfl (by decide) v _ _ hown ⟨g, 0, none⟩ 1 1 [.int .u8 z] rfl (by
    intro j u hj
    match j, hj with
    | 0, hj =>
      simp at hj
      subst hj
      simpa [Addr.add] using hc) (by intro u hu; simp at hu; subst hu; rfl) (by unfold maxLen; omega) (by omega) hB
  refine ⟨v', w', ?_, Own.snoc h1, h2, h3⟩
  unfold execOp
  simp only [ho]
  simp [resolve, invoke, builtin, h, h', hrun, Result.andThen]
/-- 'append([]byte(nil), x...)'. -/
theorem run_copyB {ρ : Operand → Value} (w : World) {o : Oper} {y : Operand} {a : Option Addr} {n c : Nat} {L : List Int} (ho : o.op = .call { callee := .builtin .append, args := #[.const (.slice none 0 0), y], argTypes := #[22, 22] }) (h : ρ (.const (.slice none 0 0)) = .slice none 0 0) (h' : ρ y = .slice a n c)
    (hr : Rd .u8 w a L) (hn : L.length = n) (h0 : n = 0 → a = none ∧ c = 0) (hl : L.length ≤ 100) : ∃ v' w', (execOp ρ o).run Tryz.prog w = .ok (.value v') w' ∧ Own w' w.heap.size v' L ∧ w.grownBy w' none := by
  obtain ⟨i0, hi, hz0, hz1, hz2⟩ := info_parts Tryz.info5
  by_cases hn0 : n = 0
  · obtain ⟨rfl, rfl⟩ := h0 hn0
    have hL : L = [] := List.eq_nil_of_length_eq_zero (by omega)
    subst hL
    subst hn0
    have hrun := run_append_owned_none (P := Tryz.prog) (w := w) w.heap.size 22 o.type 5 i0 1 Tryz.underlying22 hi (.slice none 0 0) 0 [] (World.ownsRow_nil _ _ _ _)
    refine ⟨.slice none 0 0, w, ?_, World.ownsRow_nil _ _ _ _, ⟨rfl, rfl, rfl, Nat.le_refl _, fun _ _ _ => rfl⟩⟩
    unfold execOp
    simp only [ho]
    simp [resolve, invoke, builtin, h, h', hrun, Result.andThen]
  · have hne : L ≠ [] := by rintro rfl; simp at hn; omega
    obtain ⟨g, off, rfl, hc⟩ := hr hne
    obtain ⟨v', w', hrun, h1, h2, _⟩ := run_append_own (P := Tryz.prog) (w := w) w.heap.size 22 o.type 5 i0 (.int .u8 0) 1 1 Tryz.underlying22 hi hz0 hz1 hz2 rfl (by decide) (.slice none 0 0) 0 [] (World.ownsRow_nil _ _ _ _) ⟨g, off, none⟩ n c (L.map (Value.int .u8)) (by simp [hn]) (by
      intro j u hj
      have hjl : j < L.length := by
        rcases Nat.lt_or_ge j L.length with h | h
        · exact h
        · rw [List.getElem?_eq_none (by simpa using h)] at hj; cases hj
      have e1 : (⟨g, off, none⟩ : Addr).add j = ⟨g, off + j, none⟩ := by unfold Addr.add; split <;> simp_all
      rw [e1, hc j hjl, ← hj]
      simp [List.getD, hjl]) (by intro u hu; obtain ⟨z, _, rfl⟩ := List.mem_map.1 hu; rfl) (by unfold maxLen; omega) (by omega) (Nat.le_refl _)
    refine ⟨v', w', ?_, ?_, h2⟩
    · unfold execOp
      simp only [ho]
      simp [resolve, invoke, builtin, h, h', hrun, Result.andThen]
    · unfold Own
      rw [hn]
      simpa using h1
/-- 'append(x, y...)' of lists: x of one's own, two lists more. -/
theorem run_push2 {ρ : Operand → Value} (w : World) {o : Oper} {x y : Operand} {B g : Nat} {v u1 u2 : Value} {vs : List Value} (ho : o.op = .call { callee := .builtin .append, args := #[x, y], argTypes := #[157, 157] }) (h : ρ x = v) (h' : ρ y = .slice (some ⟨g, 0, none⟩) 2 2)
    (hown : OwnR w B v vs) (hc1 : w.cell? ⟨g, 0, none⟩ = some u1) (hc2 : w.cell? ⟨g, 1, none⟩ = some u2) (o1 : u1.oneCell' = true) (o2 : u2.oneCell' = true) (hl : vs.length ≤ 1000) (hB : B ≤ w.heap.size) :
    ∃ v' w', (execOp ρ o).run Tryz.prog w = .ok (.value v') w' ∧ OwnR w' B v' (vs ++ [u1, u2]) ∧ w.grownBy w' v.ownBlock ∧ (v'.ownBlock = v.ownBlock ∨ v'.ownBlock = some w.heap.size) := by
  obtain ⟨i0, hi, hz0, hz1, hz2⟩ := info_parts Tryz.infoB
  obtain ⟨v', w', hrun, h1, h2, _, h3⟩ := run_append_own_at (P := Tryz.prog) (w := w) B 157 o.type 22 i0 (.slice none 0 0) 1 24 Tryz.underlying157 hi hz0 hz1 hz2 rfl (by decide) v _ _ hown ⟨g, 0, none⟩ 2 2 [u1, u2] rfl (by
    intro j u hj
    match j, hj with
    | 0, hj => simp at hj; subst hj; simpa [Addr.add] using hc1
    | 1, hj => simp at hj; subst hj; simpa [Addr.add] using hc2) (by intro u hu; simp at hu; rcases hu with rfl | rfl; exact o1; exact o2) (by unfold maxLen; omega) (by omega) hB
  refine ⟨v', w', ?_, ?_, h2, h3⟩
  · unfold execOp
    simp only [ho]
    simp [resolve, invoke, builtin, h, h', hrun, Result.andThen]
  · unfold OwnR
    rw [List.length_append]
    exact h1
end Go.Proofs.YtplkmkbambbemadGreatDoor
namespace Go.Proofs.YtplkmkbambbemadGreatDoor
open Go.ChangeShapes Go.WideShapes Go.ChangeAt Go.RowKit
theorem own_growW {w w' : World} {B : Nat} {e : TypeId} {v : Value} {n : Nat} {xs : List Value} {row : Option Nat} (h : w.ownsRow B e 1 v n xs) (hg : w.grownBy w' row) (hr : ∀ k, row = some k → v.ownBlock ≠ some k) : w'.ownsRow B e 1 v n xs := by
  refine ⟨h.1, ?_⟩
  rcases h.2 with h' | ⟨g, cap, cur, h1, h2, h3, h4⟩
  · exact .inl h'
  · have hlt : g < w.heap.size := by
      rcases Nat.lt_or_ge g w.heap.size with hl | hl
      · exact hl
      · rw [Array.getElem?_eq_none hl] at h3; cases h3
    refine .inr ⟨g, cap, cur, h1, h2, (hg.block g hlt (fun e => hr g e.symm ?_)).trans h3, h4⟩
    rw [h1]; rfl
theorem own_monoW {w : World} {B B' : Nat} {e : TypeId} {v : Value} {n : Nat} {xs : List Value} (h : w.ownsRow B e 1 v n xs) (hB : B' ≤ B) : w.ownsRow B' e 1 v n xs := by
  refine ⟨h.1, ?_⟩
  rcases h.2 with h' | ⟨g, cap, cur, h1, h2, h3⟩
  · exact .inl h'
  · exact .inr ⟨g, cap, cur, h1, by omega, h3⟩
theorem cell_grown {w w' : World} {row : Option Nat} {p : Addr} {v : Value} (h : w.cell? p = some v) (hg : w.grownBy w' row) (hr : ∀ g, row = some g → g ≠ p.block) : w'.cell? p = some v := by
  have := hg.block p.block (World.block_lt_of_cell? w _ h) (fun e => hr _ e.symm rfl)
  rw [← h]
  simp only [World.cell?, this]
/-- One of the two: a copy of l (v5, once b5), the one more number (v6, once b6), both (v7, once b7); its blocks S. -/
structure Ch (w : World) (B0 : Nat) (l : List Int) (x : Int) (v5 v6 v7 : Value) (b5 b6 b7 : Bool) (S : List Nat) : Prop where
  lt : ∀ g ∈ S, B0 ≤ g ∧ g < w.heap.size
  five : b5 = true → b7 = false → Own w B0 v5 l ∧ ∀ g, v5.ownBlock = some g → g ∈ S
  six : b6 = true → b7 = false → ∃ g ∈ S, v6 = .slice (some ⟨g, 0, none⟩) 1 1 ∧ w.cell? ⟨g, 0, none⟩ = some (.int .u8 x)
  seven : b7 = true → Own w B0 v7 (l ++ [x]) ∧ ∀ g, v7.ownBlock = some g → g ∈ S
theorem Ch.start (w : World) (B0 : Nat) (l : List Int) (x : Int) (v5 v6 v7 : Value) : Ch w B0 l x v5 v6 v7 false false false [] :=
  ⟨fun g h => (by cases h), fun h => (by cases h), fun h => (by cases h), fun h => (by cases h)⟩
theorem Ch.keep {w w' : World} {B0 : Nat} {l : List Int} {x : Int} {v5 v6 v7 : Value} {b5 b6 b7 : Bool} {S : List Nat} {row : Option Nat} (h : Ch w B0 l x v5 v6 v7 b5 b6 b7 S) (hg : w.grownBy w' row) (hr : ∀ g, row = some g → g ∉ S) : Ch w' B0 l x v5 v6 v7 b5 b6 b7 S := by
  refine ⟨fun g hS => ⟨(h.lt g hS).1, Nat.lt_of_lt_of_le (h.lt g hS).2 hg.size⟩, fun h5 h7 => ?_, fun h6 h7 => ?_, fun h7 => ?_⟩
  · obtain ⟨h1, h2⟩ := h.five h5 h7
    exact ⟨own_growW h1 hg (fun k hk e => hr k hk (h2 k e)), h2⟩
  · obtain ⟨g, h1, h2, h3⟩ := h.six h6 h7
    exact ⟨g, h1, h2, cell_grown h3 hg (fun k hk e => hr k hk (by rw [e]; exact h1))⟩
  · obtain ⟨h1, h2⟩ := h.seven h7
    exact ⟨own_growW h1 hg (fun k hk e => hr k hk (h2 k e)), h2⟩
def blocksOf (v : Value) : List Nat := match v.ownBlock with
  | some g => [g]
  | none => []
theorem mem_blocks {v : Value} {g : Nat} : g ∈ blocksOf v ↔ v.ownBlock = some g := by
  unfold blocksOf
  cases h : v.ownBlock with
  | none => simp
  | some k => simp [eq_comm]
theorem Ch.op5 {w w' : World} {B0 : Nat} {l : List Int} {x : Int} {v5 v6 v7 v : Value} {b6 : Bool} {S : List Nat} (h : Ch w B0 l x v5 v6 v7 false b6 false S) (hg : w.grownBy w' none) (hB : B0 ≤ w.heap.size) (hv : Own w' w.heap.size v l) : Ch w' B0 l x v v6 v7 true b6 false (blocksOf v ++ S) := by
  have hk := h.keep hg (fun g e => by cases e)
  refine ⟨fun g hS => ?_, fun _ _ => ⟨own_monoW hv hB, fun g e => List.mem_append_left _ (mem_blocks.2 e)⟩, fun h6 h7 => ?_, fun h7 => (by cases h7)⟩
  · rw [List.mem_append] at hS
    rcases hS with hS | hS
    · have := World.ownsRow.lt hv g (mem_blocks.1 hS)
      omega
    · exact hk.lt g hS
  · obtain ⟨g, h1, h2⟩ := hk.six h6 h7
    exact ⟨g, List.mem_append_right _ h1, h2⟩
theorem Ch.op6 {w : World} {B0 : Nat} {l : List Int} {x : Int} {v5 v6 v7 : Value} {b5 : Bool} {S : List Nat} (h : Ch w B0 l x v5 v6 v7 b5 false false S) (hB : B0 ≤ w.heap.size) : Ch (w.alloc (.cells #[.int .u8 x] 5)) B0 l x v5 (.slice (some ⟨w.heap.size, 0, none⟩) 1 1) v7 b5 true false (w.heap.size :: S) := by
  have hk := h.keep (World.grownBy_alloc w (.cells #[.int .u8 x] 5) none) (fun g e => by cases e)
  refine ⟨fun g hS => ?_, fun h5 h7 => ?_, fun _ _ => ⟨w.heap.size, by simp, rfl, ?_⟩, fun h7 => (by cases h7)⟩
  · rw [List.mem_cons] at hS
    rcases hS with rfl | hS
    · exact ⟨hB, by simp⟩
    · exact hk.lt g hS
  · obtain ⟨h1, h2⟩ := hk.five h5 h7
    exact ⟨h1, fun g e => List.mem_cons_of_mem _ (h2 g e)⟩
  · simp
theorem Ch.op7 {w w' : World} {B0 : Nat} {l : List Int} {x : Int} {v5 v6 v7 v : Value} {S : List Nat} (h : Ch w B0 l x v5 v6 v7 true true false S) (hg : w.grownBy w' v5.ownBlock) (hv : Own w' B0 v (l ++ [x])) : Ch w' B0 l x v5 v6 v true true true (blocksOf v ++ S) := by
  refine ⟨fun g hS => ?_, fun _ h7 => (by cases h7), fun _ h7 => (by cases h7), fun _ => ⟨hv, fun g e => List.mem_append_left _ (mem_blocks.2 e)⟩⟩
  rw [List.mem_append] at hS
  rcases hS with hS | hS
  · exact World.ownsRow.lt hv g (mem_blocks.1 hS)
  · exact ⟨(h.lt g hS).1, Nat.lt_of_lt_of_le (h.lt g hS).2 hg.size⟩
end Go.Proofs.YtplkmkbambbemadGreatDoor
namespace Go.Proofs.YtplkmkbambbemadGreatDoor
open Go.ChangeShapes Go.WideShapes Go.ChangeAt Go.RowKit
def conOp : Nat → Op
  | 0 => .move (.tmp 6)
  | 1 => .move (.tmp 4)
  | 2 => .move (.tmp 7)
  | 3 => .indexAddr 157 (.tmp 23) (.tmp 24)
  | 4 => .load 22 (.tmp 25)
  | 5 => .call { callee := .builtin .append, args := #[.const (.slice none 0 0), .tmp 26], argTypes := #[22, 22] }
  | 6 => .buildSlice 22 1 #[(0, .const (.int .u8 0))]
  | 7 => .call { callee := .builtin .append, args := #[.tmp 27, .tmp 28], argTypes := #[22, 22] }
  | 8 => .move (.tmp 4)
  | 9 => .move (.tmp 7)
  | 10 => .indexAddr 157 (.tmp 30) (.tmp 31)
  | 11 => .load 22 (.tmp 32)
  | 12 => .call { callee := .builtin .append, args := #[.const (.slice none 0 0), .tmp 33], argTypes := #[22, 22] }
  | 13 => .buildSlice 22 1 #[(0, .const (.int .u8 1))]
  | 14 => .call { callee := .builtin .append, args := #[.tmp 34, .tmp 35], argTypes := #[22, 22] }
  | 15 => .buildSlice 157 2 #[(0, .tmp 29), (1, .tmp 36)]
  | 16 => .call { callee := .builtin .append, args := #[.tmp 22, .tmp 37], argTypes := #[157, 157] }
  | _ => .assign (.tmp 38)
def conDeps : Nat → List Nat
  | 3 => [1, 2]
  | 4 => [3]
  | 5 => [4]
  | 7 => [5, 6]
  | 10 => [8, 9]
  | 11 => [10]
  | 12 => [11]
  | 14 => [12, 13]
  | 15 => [7, 14]
  | 16 => [0, 15]
  | 17 => [16]
  | _ => []
def upd (L : Nat → Bool) (i : Nat) : Nat → Bool := fun j => if j = i then true else L j
theorem upd_same (L : Nat → Bool) (i : Nat) : upd L i i = true := if_pos rfl
theorem upd_other (L : Nat → Bool) {i j : Nat} (h : j ≠ i) : upd L i j = L j := if_neg h
def Clos (L : Nat → Bool) : Prop := ∀ i j, j ∈ conDeps i → L i = true → L j = true
theorem Clos.upd {L : Nat → Bool} (h : Clos L) {i : Nat} (hi : ∀ j ∈ conDeps i, L j = true) : Clos (upd L i) := by
  intro p j hj hp
  by_cases hji : j = i
  · rw [hji]; exact upd_same L i
  · rw [upd_other L hji]
    by_cases hpi : p = i
    · subst hpi; exact hi j hj
    · rw [upd_other L hpi] at hp
      exact h p j hj hp
/-- Behind the last but two all is done. -/
theorem Clos.all15 {L : Nat → Bool} (h : Clos L) (h15 : L 15 = true) : ∀ j, 1 ≤ j → j ≤ 15 → L j = true := by
  have l7 := h 15 7 (by decide) h15
  have l14 := h 15 14 (by decide) h15
  have l5 := h 7 5 (by decide) l7
  have l6 := h 7 6 (by decide) l7
  have l4 := h 5 4 (by decide) l5
  have l3 := h 4 3 (by decide) l4
  have l2 := h 3 2 (by decide) l3
  have l1 := h 3 1 (by decide) l3
  have l12 := h 14 12 (by decide) l14
  have l13 := h 14 13 (by decide) l14
  have l11 := h 12 11 (by decide) l12
  have l10 := h 11 10 (by decide) l11
  have l9 := h 10 9 (by decide) l10
  have l8 := h 10 8 (by decide) l10
  intro j h1 h2
  have : j = 1 ∨ j = 2 ∨ j = 3 ∨ j = 4 ∨ j = 5 ∨ j = 6 ∨ j = 7 ∨ j = 8 ∨ j = 9 ∨ j = 10 ∨ j = 11 ∨ j = 12 ∨ j = 13 ∨ j = 14 ∨ j = 15 := by omega
  rcases this with rfl | rfl | rfl | rfl | rfl | rfl | rfl | rfl | rfl | rfl | rfl | rfl | rfl | rfl | rfl <;> assumption
theorem Clos.all16 {L : Nat → Bool} (h : Clos L) (h16 : L 16 = true) : ∀ j, j ≤ 16 → L j = true := by
  intro j hj
  by_cases h0 : j = 0
  · subst h0; exact h 16 0 (by decide) h16
  · by_cases h6 : j = 16
    · subst h6; exact h16
    · exact h.all15 (h 16 15 (by decide) h16) j (by omega) (by omega)
/-- Ahead of the last append. -/
structure ConI (wr : World) (a0 : Act) (pv : Nat → Option Value) (l : List Int) (L : Nat → Bool) (a : Act) (w : World) : Prop where
  size : a.tmps.size = a0.tmps.size
  defers : a.defers = a0.defers
  below : Below wr.heap.size wr w
  frame : ∀ s : Nat, s < 22 ∨ 38 < s → a.eval (.tmp s) = a0.eval (.tmp s)
  pure : ∀ i v, pv i = some v → L i = true → a.eval (.tmp (22 + i)) = v
  clos : Clos L
  ch : ∃ SA SB, (∀ g ∈ SA, g ∉ SB) ∧ Ch w wr.heap.size l 0 (a.eval (.tmp 27)) (a.eval (.tmp 28)) (a.eval (.tmp 29)) (L 5) (L 6) (L 7) SA ∧ Ch w wr.heap.size l 1 (a.eval (.tmp 34)) (a.eval (.tmp 35)) (a.eval (.tmp 36)) (L 12) (L 13) (L 14) SB
  last : L 15 = true → ∃ g, wr.heap.size ≤ g ∧ a.eval (.tmp 37) = .slice (some ⟨g, 0, none⟩) 2 2 ∧ w.cell? ⟨g, 0, none⟩ = some (a.eval (.tmp 29)) ∧ w.cell? ⟨g, 1, none⟩ = some (a.eval (.tmp 36))
  no16 : L 16 = false
/-- What every operation ahead of the last append leaves as it was. -/
theorem ConI.step {wr : World} {a0 : Act} {pv : Nat → Option Value} {l : List Int} {L : Nat → Bool} {a : Act} {w w' : World} {i : Nat} {v : Value} {row : Option Nat} (h : ConI wr a0 pv l L a w) (hi : i ≤ 14) (hN : 39 ≤ a0.tmps.size) (hLi : L i = false)
    (hd : ∀ j ∈ conDeps i, L j = true) (hg : w.grownBy w' row) (hr : ∀ g, row = some g → wr.heap.size ≤ g) (hp : ∀ u, pv i = some u → v = u) (h0 : i = 0 → w' = w)
    (hch : ∃ SA SB, (∀ g ∈ SA, g ∉ SB) ∧ Ch w' wr.heap.size l 0 ((a.put (some (22 + i)) v).eval (.tmp 27)) ((a.put (some (22 + i)) v).eval (.tmp 28)) ((a.put (some (22 + i)) v).eval (.tmp 29)) (upd L i 5) (upd L i 6) (upd L i 7) SA ∧ Ch w' wr.heap.size l 1 ((a.put (some (22 + i)) v).eval (.tmp 34)) ((a.put (some (22 + i)) v).eval (.tmp 35)) ((a.put (some (22 + i)) v).eval (.tmp 36)) (upd L i 12) (upd L i 13) (upd L i 14) SB) :
    ConI wr a0 pv l (upd L i) (a.put (some (22 + i)) v) w' := by
  refine ⟨by simp [Act.put, h.size], h.defers, h.below.grown hg h.below.size hr, fun s hs => ?_, fun j u hj hL => ?_, h.clos.upd hd, hch, fun h15 => ?_, ?_⟩
  · rw [Act.eval_put_ne a _ _ _ (by omega)]
    exact h.frame s hs
  · by_cases hji : j = i
    · subst hji
      rw [Act.eval_put_same a _ _ (by rw [h.size]; omega)]
      exact hp u hj
    · rw [upd_other L hji] at hL
      rw [Act.eval_put_ne a _ _ _ (by omega)]
      exact h.pure j u hj hL
  · rw [upd_other L (by omega)] at h15
    by_cases hi0 : i = 0
    · obtain rfl := h0 hi0
      obtain ⟨g, h1, h2, h3, h4⟩ := h.last h15
      refine ⟨g, h1, ?_, ?_, ?_⟩
      · rw [Act.eval_put_ne a _ _ _ (by omega)]; exact h2
      · rw [Act.eval_put_ne a _ _ _ (by omega)]; exact h3
      · rw [Act.eval_put_ne a _ _ _ (by omega)]; exact h4
    · have := h.clos.all15 h15 i (by omega) (by omega)
      rw [hLi] at this
      cases this
  · rw [upd_other L (by omega)]
    exact h.no16
theorem grown_refl (w : World) : w.grownBy w none := ⟨rfl, rfl, rfl, Nat.le_refl _, fun _ _ _ => rfl⟩
/-- A step that only reads. -/
theorem ConI.read {wr : World} {a0 : Act} {pv : Nat → Option Value} {l : List Int} {L : Nat → Bool} {a : Act} {w : World} {i : Nat} {v : Value} (h : ConI wr a0 pv l L a w) (hi : i ≤ 4 ∨ (8 ≤ i ∧ i ≤ 11)) (hN : 39 ≤ a0.tmps.size) (hLi : L i = false)
    (hd : ∀ j ∈ conDeps i, L j = true) (hp : pv i = some v) : ConI wr a0 pv l (upd L i) (a.put (some (22 + i)) v) w := by
  refine h.step (row := none) (by omega) hN hLi hd (grown_refl w) (fun g e => by cases e) (fun u hu => by rw [hp] at hu; exact Option.some.inj hu) (fun _ => rfl) ?_
  obtain ⟨SA, SB, h1, h2, h3⟩ := h.ch
  refine ⟨SA, SB, h1, ?_, ?_⟩
  · rw [Act.eval_put_ne a _ _ _ (by omega), Act.eval_put_ne a _ _ _ (by omega), Act.eval_put_ne a _ _ _ (by omega), upd_other L (by omega), upd_other L (by omega), upd_other L (by omega)]
    exact h2
  · rw [Act.eval_put_ne a _ _ _ (by omega), Act.eval_put_ne a _ _ _ (by omega), Act.eval_put_ne a _ _ _ (by omega), upd_other L (by omega), upd_other L (by omega), upd_other L (by omega)]
    exact h3
end Go.Proofs.YtplkmkbambbemadGreatDoor
