import Derived.Test.YtcnkcbipkchoiagU10
namespace Go.Proofs.Ytcnkcbipkchoiag
open Go.ChangeShapes Go.WideShapes Go.ChangeAt Go.RowKit
theorem any_inv {P : Program} {ops : Array Oper} {Q : Exit → Act → World → Prop} (k : Nat) (Inv : (Nat → Bool) → Act → World → Prop) (hk : ops.size = k) (htopo : ∀ i, i < k → laterNone ops i = true)
    (hstep : ∀ (L : Nat → Bool) (a : Act) (w : World) (i : Nat), Inv L a w → i < k → L i = false → (∀ j, waitsFor ops i j = true → L j = true) → wpOp P ops Q i (fun a' w' => Inv (fun j => if j = i then true else L j) a' w') a w)
    (hdone : ∀ (L : Nat → Bool) (a : Act) (w : World), (∀ j, j < k → L j = true) → Inv L a w → Q .normal a w) :
    ∀ (fuel : Nat) (listed : Array Bool) (a : Act) (w : World), listed.size = k → listed.toList.count false ≤ fuel → Inv (fun j => listed.getD j false) a w → wpAny P .any ops Q fuel listed a w := by
  have hdn : ∀ (listed : Array Bool) (a : Act) (w : World), listed.size = k → Region.ready .any ops listed = [] → Inv (fun j => listed.getD j false) a w → Q .normal a w := by
    intro listed a w hls hr hi
    refine hdone _ a w (fun j hj => ?_) hi
    show listed.getD j false = true
    by_cases hex : ∃ i, i < k ∧ listed.getD i true = false
    · obtain ⟨i0, hi0⟩ := hex
      obtain ⟨i, ⟨hi1, hf⟩, hmin⟩ := least (p := fun i => i < k ∧ listed.getD i true = false) i0 hi0
      have : i ∈ Region.ready .any ops listed := ready_first (by omega) hf (fun j hj => by
        have hjs : j < listed.size := by omega
        cases hb : listed.getD j false with
        | true => rfl
        | false =>
          have h2 : listed.getD j true = false := by
            rw [Array.getD_eq_getD_getElem?, Array.getElem?_eq_getElem hjs] at hb ⊢
            simpa using hb
          exact absurd (show j < k ∧ listed.getD j true = false from ⟨by omega, h2⟩) (hmin j hj)) (htopo i hi1)
      rw [hr] at this
      cases this
    · have hjs : j < listed.size := by omega
      have h2 : listed.getD j true ≠ false := fun h => hex ⟨j, hj, h⟩
      rw [Array.getD_eq_getD_getElem?, Array.getElem?_eq_getElem hjs] at h2 ⊢
      simpa using h2
  intro fuel
  induction fuel with
  | zero =>
    intro listed a w hls hc hi
    have hr : Region.ready .any ops listed = [] := ready_done fun j hj => by
      have hjs : j < listed.size := by omega
      cases hb : listed.getD j true with
      | true => rfl
      | false =>
        have := count_set listed j hb
        omega
    exact ⟨hr, hdn listed a w hls hr hi⟩
  | succ fuel ih =>
    intro listed a w hls hc hi
    refine ⟨fun hr => hdn listed a w hls hr hi, fun i hir => ?_⟩
    obtain ⟨his, hiu⟩ := ready_un hir
    have hil : i < listed.size := by omega
    refine wpOp_mono (fun a' w' h => ?_) (hstep _ a w i hi (by omega) (by
      rw [Array.getD_eq_getD_getElem?, Array.getElem?_eq_getElem hil] at hiu
      show listed.getD i false = false
      rw [Array.getD_eq_getD_getElem?, Array.getElem?_eq_getElem hil]
      simpa using hiu) (fun j hj => ready_waits hir hj))
    refine ih _ a' w' (by rw [Array.size_setIfInBounds]; exact hls) (by have := count_set listed i hiu; omega) ?_
    have e : (fun j => (listed.setIfInBounds i true).getD j false) = fun j => if j = i then true else listed.getD j false := by
      funext j
      rw [getD_set]
      by_cases h1 : j = i
      · subst h1
        rw [if_pos ⟨rfl, hil⟩, if_pos rfl]
      · rw [if_neg (fun h => h1 h.1.symm), if_neg h1]
    rw [e]
    exact h
theorem region_inv {P : Program} {ops : Array Oper} {Q : Exit → Act → World → Prop} {id : Nat} (k : Nat) (Inv : (Nat → Bool) → Act → World → Prop) (a0 : Act) (w : World) (hm : P.follows .mixedOrders = true) (hk : ops.size = k) (htopo : ((List.range k).all fun i => laterNone ops i) = true)
    (h0 : Inv (fun _ => false) a0 w.drew)
    (hstep : ∀ (L : Nat → Bool) (a : Act) (w : World) (i : Nat), Inv L a w → i < k → L i = false → (∀ j, waitsFor ops i j = true → L j = true) → wpOp P ops Q i (fun a' w' => Inv (fun j => if j = i then true else L j) a' w') a w)
    (hdone : ∀ (L : Nat → Bool) (a : Act) (w : World), (∀ j, j < k → L j = true) → Inv L a w → Q .normal a w) : (Code.region id ops true).wp P Q a0 w := by
  refine wp_region_any hm ?_
  show wpAny P .any ops Q ops.size (Array.replicate ops.size false) a0 w.drew
  rw [hk]
  refine any_inv k Inv hk (fun i hi => List.all_eq_true.1 htopo i (List.mem_range.2 hi)) hstep hdone k _ a0 w.drew (by simp) (by simp) ?_
  have e : (fun j => (Array.replicate k false).getD j false) = fun _ : Nat => false := by
    funext j
    rw [Array.getD_eq_getD_getElem?, Array.getElem?_replicate]
    split <;> rfl
  rw [e]
  exact h0
theorem act_known (a : Act) (lst : List Value) (hs : a.tmps.size = lst.length) (hd : a.defers = []) (h : ∀ s : Nat, s < lst.length → a.eval (.tmp s) = lst.getD s undef) : a = { tmps := lst.toArray, defers := [] } := by
  obtain ⟨t, d⟩ := a
  simp only at hs hd
  subst hd
  congr 1
  refine Array.ext (by simpa using hs) fun i i1 i2 => ?_
  have hti : t[i] = t.getD i undef := by simp [Array.getD, i1]
  have := h i (by omega)
  have hev : ({ tmps := t, defers := [] } : Act).eval (.tmp i) = t.getD i undef := rfl
  rw [hti, ← hev, this]
  simp [List.getD, show i < lst.length by omega]
/-- A region each of whose operations has one answer, whatever the order; nothing that lay is changed. 'd': the slot that each writes; 'reads': the slots that each reads; 'lst': all slots behind it. -/
theorem region_known {P : Program} {ops : Array Oper} {id : Nat} (k : Nat) (d : List Nat) (reads : List (List Nat)) (lst : List Value) (a0 : Act) (wr : World) (hm : P.follows .mixedOrders = true) (hk : ops.size = k) (hd0 : a0.defers = []) (hsz : a0.tmps.size = lst.length)
    (hdN : ((List.range k).all fun i => decide (d.getD i 0 < lst.length)) = true) (havail : ((List.range k).all fun i => (reads.getD i []).all fun s => (List.range k).all fun j => (d.getD j 0 != s) || waitsFor ops i j) = true) (htopo : ((List.range k).all fun i => laterNone ops i) = true)
    (hrN : ((List.range k).all fun i => (reads.getD i []).all fun s => decide (s < lst.length)) = true)
    (h0 : ∀ s : Nat, s < lst.length → ((List.range k).all fun i => d.getD i 0 != s) = true → a0.eval (.tmp s) = lst.getD s undef)
    (hstep : ∀ i, i < k → ∀ (a : Act) (w : World), Below wr.heap.size wr w → (∀ s ∈ reads.getD i [], a.eval (.tmp s) = lst.getD s undef) → ∀ K : Act → World → Prop, (∀ w', Below wr.heap.size wr w' → K (a.put (some (d.getD i 0)) (lst.getD (d.getD i 0) undef)) w') → wpOp P ops (fun e a' w' => e = .normal ∧ a' = { tmps := lst.toArray, defers := [] } ∧ Below wr.heap.size wr w') i K a w) :
    (Code.region id ops true).wp P (fun e a' w' => e = .normal ∧ a' = { tmps := lst.toArray, defers := [] } ∧ Below wr.heap.size wr w') a0 wr := by
  have hdl : ∀ i, i < k → d.getD i 0 < lst.length := fun i hi => of_decide_eq_true (List.all_eq_true.1 hdN i (List.mem_range.2 hi))
  refine region_inv k (fun L a w => a.tmps.size = a0.tmps.size ∧ a.defers = [] ∧ Below wr.heap.size wr w ∧ ∀ s : Nat, s < lst.length → (∀ i, i < k → d.getD i 0 = s → L i = true) → a.eval (.tmp s) = lst.getD s undef) a0 wr hm hk htopo ?_ ?_ ?_
  · refine ⟨rfl, hd0, (Below.refl _ wr).drew, fun s hs h => h0 s hs (List.all_eq_true.2 fun i hi => ?_)⟩
    rw [bne_iff_ne]
    intro e
    have := h i (List.mem_range.1 hi) e
    cases this
  · rintro L a w i ⟨h1, h2, h3, h4⟩ hi hLi hw
    refine hstep i hi a w h3 (fun s hs => h4 s ?_ (fun j hj e => hw j ?_)) _ (fun w' hb => ⟨by simp [Act.put, h1], h2, hb, fun s hs h => ?_⟩)
    · exact of_decide_eq_true (List.all_eq_true.1 (List.all_eq_true.1 hrN i (List.mem_range.2 hi)) s hs)
    · have := List.all_eq_true.1 (List.all_eq_true.1 (List.all_eq_true.1 havail i (List.mem_range.2 hi)) s hs) j (List.mem_range.2 hj)
      rw [e] at this
      simpa using this
    · by_cases e : d.getD i 0 = s
      · subst e
        exact Act.eval_put_same a _ _ (by rw [h1, hsz]; exact hs)
      · rw [Act.eval_put_ne a _ _ _ e]
        refine h4 s hs (fun j hj ej => ?_)
        have : (if j = i then true else L j) = true := h j hj ej
        by_cases hji : j = i
        · subst hji; exact absurd ej e
        · rw [if_neg hji] at this; exact this
  · rintro L a w hL ⟨h1, h2, h3, h4⟩
    exact ⟨rfl, act_known a lst (h1.trans hsz) h2 (fun s hs => h4 s hs (fun i hi _ => hL i hi)), h3⟩
def setAll (l : List Value) : List (Nat × Value) → List Value
  | [] => l
  | q :: t => setAll (l.set q.1 q.2) t
theorem setAll_length (t : List (Nat × Value)) : ∀ l : List Value, (setAll l t).length = l.length := by
  induction t with
  | nil => intro l; rfl
  | cons q t ih => intro l; rw [setAll, ih, List.length_set]
theorem setAll_other (t : List (Nat × Value)) : ∀ (l : List Value) (s : Nat), (∀ q ∈ t, q.1 ≠ s) → (setAll l t).getD s undef = l.getD s undef := by
  induction t with
  | nil => intro l s _; rfl
  | cons q t ih =>
    intro l s h
    rw [setAll, ih _ s (fun q hq => h q (List.mem_cons_of_mem _ hq))]
    simp [List.getD, h q (by simp)]
/-- The same, by what each operation writes alone. -/
theorem region_known2 {P : Program} {ops : Array Oper} {id : Nat} {l0 : List Value} (k : Nat) (dv : List (Nat × Value)) (reads : List (List Nat)) (wr : World) (hm : P.follows .mixedOrders = true) (hk : ops.size = k) (hdk : dv.length = k)
    (hdN : ((List.range k).all fun i => decide ((dv.getD i (0, undef)).1 < l0.length)) = true) (havail : ((List.range k).all fun i => (reads.getD i []).all fun s => (List.range k).all fun j => ((dv.getD j (0, undef)).1 != s) || waitsFor ops i j) = true) (htopo : ((List.range k).all fun i => laterNone ops i) = true)
    (hrN : ((List.range k).all fun i => (reads.getD i []).all fun s => decide (s < l0.length)) = true)
    (hstep : ∀ i, i < k → ∀ (a : Act) (w : World), Below wr.heap.size wr w → (∀ s ∈ reads.getD i [], a.eval (.tmp s) = (setAll l0 dv).getD s undef) → ∀ K : Act → World → Prop, (∀ w', Below wr.heap.size wr w' → K (a.put (some (dv.getD i (0, undef)).1) ((setAll l0 dv).getD (dv.getD i (0, undef)).1 undef)) w') → wpOp P ops (fun e a' w' => e = .normal ∧ a' = { tmps := (setAll l0 dv).toArray, defers := [] } ∧ Below wr.heap.size wr w') i K a w) :
    (Code.region id ops true).wp P (fun e a' w' => e = .normal ∧ a' = { tmps := (setAll l0 dv).toArray, defers := [] } ∧ Below wr.heap.size wr w') { tmps := l0.toArray, defers := [] } wr := by
  have hd : ∀ i, i < k → (dv.map (·.1)).getD i 0 = (dv.getD i (0, undef)).1 := fun i hi => by simp [List.getD, show i < dv.length by omega]
  have hl := setAll_length dv l0
  have cong : ∀ (f g : Nat → Bool), (∀ i, i < k → f i = g i) → ((List.range k).all f) = ((List.range k).all g) := fun f g h => by
    rw [Bool.eq_iff_iff, List.all_eq_true, List.all_eq_true]
    exact ⟨fun h1 i hi => by rw [← h i (List.mem_range.1 hi)]; exact h1 i hi, fun h1 i hi => by rw [h i (List.mem_range.1 hi)]; exact h1 i hi⟩
  refine region_known k (dv.map (·.1)) reads (setAll l0 dv) _ wr hm hk rfl (by rw [hl]; simp) ?_ ?_ htopo (by rw [hl]; exact hrN) (fun s hs hall => ?_) (fun i hi a w hb hr K hK => hstep i hi a w hb hr K (by rw [hd i hi] at hK; exact hK))
  · rw [hl, ← hdN]
    exact cong _ _ (fun i hi => by rw [hd i hi])
  · rw [← havail]
    refine cong _ _ (fun i hi => ?_)
    congr 1
    funext s
    exact cong _ _ (fun j hj => by rw [hd j hj])
  · rw [setAll_other dv l0 s (fun q hq e => ?_)]
    · rw [hl] at hs
      simp [Act.eval, List.getD]
    · obtain ⟨i, hi, rfl⟩ := List.getElem_of_mem hq
      have := List.all_eq_true.1 hall i (List.mem_range.2 (by omega))
      simp [List.getD, hi] at this
      exact this e
theorem beq_ne {a b : Nat} (h : a ≠ b) : Nat.beq a b = false := by
  cases hb : Nat.beq a b with
  | false => rfl
  | true => exact absurd (Nat.eq_of_beq_eq_true hb) h
/-- What a slot holds behind it all. -/
def lkp (l0 : List Value) : List (Nat × Value) → Nat → Value
  | [], s => l0.getD s undef
  | q :: t, s => match Nat.beq q.1 s with
    | true => q.2
    | false => lkp l0 t s
theorem lkp_set {l0 : List Value} {i : Nat} {v : Value} : ∀ (t : List (Nat × Value)) (s : Nat), i ≠ s → lkp (l0.set i v) t s = lkp l0 t s
  | [], s, h => by simp [lkp, List.getD, h]
  | q :: t, s, h => by
    rw [lkp, lkp, lkp_set t s h]
theorem lkp_none {l0 : List Value} : ∀ (t : List (Nat × Value)) (s : Nat), (∀ q ∈ t, q.1 ≠ s) → lkp l0 t s = l0.getD s undef
  | [], s, _ => rfl
  | q :: t, s, h => by
    have h1 : Nat.beq q.1 s = false := beq_ne (h q (by simp))
    rw [lkp, h1]
    exact lkp_none t s (fun q hq => h q (List.mem_cons_of_mem _ hq))
theorem setAll_lkp (t : List (Nat × Value)) : ∀ (l0 : List Value) (s : Nat), (t.map (·.1)).Nodup → (∀ q ∈ t, q.1 < l0.length) → (setAll l0 t).getD s undef = lkp l0 t s := by
  induction t with
  | nil => intro l0 s _ _; rfl
  | cons q t ih =>
    intro l0 s hn hl
    rw [List.map_cons, List.nodup_cons] at hn
    rw [setAll, ih _ s hn.2 (fun p hp => by rw [List.length_set]; exact hl p (List.mem_cons_of_mem _ hp)), lkp]
    by_cases e : q.1 = s
    · subst e
      have h1 : Nat.beq q.1 q.1 = true := Nat.beq_refl q.1
      rw [h1, lkp_none t _ (fun p hp he => hn.1 (List.mem_map.2 ⟨p, hp, he⟩))]
      simp [List.getD, hl q (by simp)]
    · have h1 : Nat.beq q.1 s = false := beq_ne e
      rw [h1]
      exact lkp_set t s e
theorem lkp_at (l0 : List Value) (t : List (Nat × Value)) (hn : (t.map (·.1)).Nodup) : ∀ i, i < t.length → lkp l0 t (t.getD i (0, undef)).1 = (t.getD i (0, undef)).2 := by
  induction t with
  | nil => intro i hi; simp at hi
  | cons q t ih =>
    intro i hi
    rw [List.map_cons, List.nodup_cons] at hn
    cases i with
    | zero => simp [lkp, List.getD]
    | succ i =>
      have hi' : i < t.length := by simpa using hi
      have e : (q :: t).getD (i + 1) (0, undef) = t.getD i (0, undef) := by simp [List.getD]
      rw [e, lkp]
      have hm : (t.getD i (0, undef)) ∈ t := by
        have e2 : t.getD i (0, undef) = t[i] := by simp [List.getD, hi']
        rw [e2]
        exact List.getElem_mem hi'
      have h1 : Nat.beq q.1 (t.getD i (0, undef)).1 = false := beq_ne (fun h => hn.1 (List.mem_map.2 ⟨_, hm, h.symm⟩))
      rw [h1]
      exact ih hn.2 i hi'
/-- The same; what an operation reads is looked up among what was written, then in the frame. -/
theorem region_known3 {P : Program} {ops : Array Oper} {id : Nat} {l0 : List Value} (k : Nat) (dv : List (Nat × Value)) (reads : List (List Nat)) (wr : World) (hm : P.follows .mixedOrders = true) (hk : ops.size = k) (hdk : dv.length = k) (hnd : (dv.map (·.1)).Nodup)
    (hdN : ((List.range k).all fun i => decide ((dv.getD i (0, undef)).1 < l0.length)) = true) (havail : ((List.range k).all fun i => (reads.getD i []).all fun s => (List.range k).all fun j => ((dv.getD j (0, undef)).1 != s) || waitsFor ops i j) = true) (htopo : ((List.range k).all fun i => laterNone ops i) = true)
    (hrN : ((List.range k).all fun i => (reads.getD i []).all fun s => decide (s < l0.length)) = true)
    (hstep : ∀ i, i < k → ∀ (a : Act) (w : World), Below wr.heap.size wr w → (∀ s ∈ reads.getD i [], a.eval (.tmp s) = lkp l0 dv s) → ∀ (Q : Exit → Act → World → Prop) (K : Act → World → Prop), (∀ w', Below wr.heap.size wr w' → K (a.put (some (dv.getD i (0, undef)).1) (dv.getD i (0, undef)).2) w') → wpOp P ops Q i K a w) :
    (Code.region id ops true).wp P (fun e a' w' => e = .normal ∧ a' = { tmps := (setAll l0 dv).toArray, defers := [] } ∧ Below wr.heap.size wr w') { tmps := l0.toArray, defers := [] } wr := by
  have hlt : ∀ q ∈ dv, q.1 < l0.length := fun q hq => by
    obtain ⟨i, hi, rfl⟩ := List.getElem_of_mem hq
    have := of_decide_eq_true (List.all_eq_true.1 hdN i (List.mem_range.2 (by omega)))
    simpa [List.getD, hi] using this
  have hse : ∀ s, (setAll l0 dv).getD s undef = lkp l0 dv s := fun s => setAll_lkp dv l0 s hnd hlt
  refine region_known2 k dv reads wr hm hk hdk hdN havail htopo hrN (fun i hi a w hb hr K hK => hstep i hi a w hb (fun s hs => (hr s hs).trans (hse s)) _ K (fun w' hb' => ?_))
  have := hK w' hb'
  rw [hse, lkp_at l0 dv hnd i (by omega)] at this
  exact this
theorem op_value {P : Program} {ops : Array Oper} {Q : Exit → Act → World → Prop} {i : Nat} {o : Oper} {a : Act} {w w' : World} {v : Value} {K : Act → World → Prop} (hi : ops[i]? = some o) (hg : o.guard = none)
    (hrun : (execOp a.eval o).run P w = .ok (.value v) w') (hK : K (a.put o.dst v) w') : wpOp P ops Q i K a w := by
  unfold wpOp
  rw [hi]
  have hw : Region.wanted o (yielded ops a.tmps) = true := by simp [Region.wanted, hg]
  simp only [hw, if_true, Oper.wp]
  left
  rw [hrun]
  exact hK
end Go.Proofs.Ytcnkcbipkchoiag
