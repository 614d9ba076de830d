import Derived.Test.YtplkmkbambbemaeGreatDoorM01
import Derived.OrdersIn
import Derived.OwnWalkIn
import Derived.Great.Frames
import Derived.Laws.AppendOwnNone
import Derived.Maps.AppendAt
import Derived.Test.YtplkmkbambbemaeGreatDoorM02
namespace Go.Proofs.YtplkmkbambbemaeGreatDoor
open Go.ChangeShapes Go.WideShapes Go.ChangeAt Go.RowKit
/-- Operation i waits for operation j. -/
def waitsFor (ops : Array Oper) (i j : Nat) : Bool := ((ops[i]?).map fun o => o.after.any fun e => e.on == j && Region.binds .any e).getD false
/-- Operation i waits for none behind it. -/
def laterNone (ops : Array Oper) (i : Nat) : Bool := ((ops[i]?).map fun o => o.after.all fun e => !Region.binds .any e || decide (e.on < i)).getD true
theorem ready_waits {ops : Array Oper} {listed : Array Bool} {i j : Nat} (h : i ∈ Region.ready .any ops listed) (hw : waitsFor ops i j = true) : listed.getD j false = true := by
  unfold Region.ready at h
  rw [List.mem_filter] at h
  obtain ⟨_, h⟩ := h
  unfold waitsFor at hw
  cases ho : ops[i]? with
  | none => rw [ho] at hw; simp at hw
  | some o =>
    rw [ho] at h hw
    simp only [Option.map_some, Option.getD_some, Bool.and_eq_true, Array.any_eq_true, Array.all_eq_true] at h hw
    obtain ⟨x, hx, he⟩ := hw
    have h2 := h.2 x hx
    simp only [beq_iff_eq, Bool.or_eq_true, Bool.not_eq_true'] at he h2
    rw [← he.1]
    rcases h2 with h2 | h2
    · rw [he.2] at h2; cases h2
    · exact h2
theorem ready_un {ops : Array Oper} {listed : Array Bool} {i : Nat} (h : i ∈ Region.ready .any ops listed) : i < ops.size ∧ listed.getD i true = false := by
  unfold Region.ready at h
  rw [List.mem_filter] at h
  simp only [List.mem_range, Bool.and_eq_true, Bool.not_eq_true'] at h
  exact ⟨h.1, h.2.1⟩
/-- The first that is not listed is ready. -/
theorem ready_first {ops : Array Oper} {listed : Array Bool} {i : Nat} (hi : i < ops.size) (hl : listed.getD i true = false) (hp : ∀ j, j < i → listed.getD j false = true) (ht : laterNone ops i = true) : i ∈ Region.ready .any ops listed := by
  unfold Region.ready
  rw [List.mem_filter]
  refine ⟨List.mem_range.2 hi, ?_⟩
  unfold laterNone at ht
  have ho : ops[i]? = some ops[i] := Array.getElem?_eq_getElem hi
  rw [ho] at ht ⊢
  simp only [Option.map_some, Option.getD_some, Array.all_eq_true, decide_eq_true_eq, Bool.and_eq_true, Bool.not_eq_true', Bool.or_eq_true] at ht ⊢
  exact ⟨hl, fun x hx => (ht x hx).imp id (hp _)⟩
theorem ready_done {ops : Array Oper} {listed : Array Bool} (h : ∀ i, i < ops.size → listed.getD i true = true) : Region.ready .any ops listed = [] := by
  unfold Region.ready
  rw [List.filter_eq_nil_iff]
  intro i hi
  rw [List.mem_range] at hi
  rw [h i hi]
  simp
theorem getD_set (L : Array Bool) (i j : Nat) (b : Bool) : (L.setIfInBounds i true).getD j b = if i = j ∧ j < L.size then true else L.getD j b := by
  simp only [Array.getD_eq_getD_getElem?, Array.getElem?_setIfInBounds]
  by_cases h : i = j
  · subst h
    by_cases h2 : i < L.size
    · simp [h2]
    · simp [h2]
  · simp [h]
theorem count_set (L : Array Bool) (i : Nat) (h : L.getD i true = false) : (L.setIfInBounds i true).toList.count false + 1 = L.toList.count false := by
  have hi : i < L.size := by
    rcases Nat.lt_or_ge i L.size with h' | h'
    · exact h'
    · rw [Array.getD_eq_getD_getElem?, Array.getElem?_eq_none h'] at h; cases h
  have he : L.toList[i]'(by simpa using hi) = false := by
    rw [Array.getD_eq_getD_getElem?, Array.getElem?_eq_getElem hi] at h
    simpa using h
  rw [Array.toList_setIfInBounds, List.count_set (by simpa using hi), he]
  have : 0 < L.toList.count false := List.count_pos_iff.2 (he ▸ List.getElem_mem _)
  show L.toList.count false - 1 + 0 + 1 = L.toList.count false
  omega
theorem least {p : Nat → Prop} : ∀ n, p n → ∃ m, p m ∧ ∀ j, j < m → ¬ p j := by
  intro n
  induction n using Nat.strongRecOn with
  | ind n ih =>
    intro hn
    by_cases h : ∃ j, j < n ∧ p j
    · obtain ⟨j, hj, hp⟩ := h
      exact ih j hj hp
    · exact ⟨n, hn, fun j hj hp => h ⟨j, hj, hp⟩⟩
theorem anyIn_quiet {F : Fence} {n : Nat} {P : Program} {ops : Array Oper} {Q : Exit → Act → World → Prop} (k d0 : Nat) (vals : List Value) (uses : Nat → List Nat) (a0 : Act) (w : World) (hk : ops.size = k + 1) (hN : d0 + k ≤ a0.tmps.size)
    (havail : ∀ i, i < k → ∀ j ∈ uses i, waitsFor ops i j = true) (htopo : ∀ i, i ≤ k → laterNone ops i = true) (hlast : ∀ j, j < k → waitsFor ops k j = true)
    (hstep : ∀ i, i < k → ∀ a : Act, (∀ j ∈ uses i, a.eval (.tmp (d0 + j)) = vals.getD j undef) → (∀ s, s < d0 ∨ d0 + k ≤ s → a.eval (.tmp s) = a0.eval (.tmp s)) → ∀ K : Act → World → Prop, K (a.put (some (d0 + i)) (vals.getD i undef)) w → wpOpIn F n P ops Q i K a w)
    (hstore : ∀ a : Act, (∀ j, j < k → a.eval (.tmp (d0 + j)) = vals.getD j undef) → (∀ s, s < d0 ∨ d0 + k ≤ s → a.eval (.tmp s) = a0.eval (.tmp s)) → wpOpIn F n P ops Q k (fun a w => Q .normal a w) a w) :
    ∀ (fuel : Nat) (listed : Array Bool) (a : Act), listed.size = k + 1 → listed.getD k true = false → listed.toList.count false ≤ fuel → a.tmps.size = a0.tmps.size → (∀ j, j < k → listed.getD j false = true → a.eval (.tmp (d0 + j)) = vals.getD j undef) →
      (∀ s, s < d0 ∨ d0 + k ≤ s → a.eval (.tmp s) = a0.eval (.tmp s)) → wpAnyIn F n P .any ops Q fuel listed a w := by
  intro fuel
  induction fuel with
  | zero =>
    intro listed a hls hl hc _ _ _
    have := count_set listed k hl
    omega
  | succ fuel ih =>
    intro listed a hls hl hc hsz hv ho
    have hne : ∃ i, i ∈ Region.ready .any ops listed := by
      obtain ⟨i, ⟨hi, hf⟩, hmin⟩ := least (p := fun i => i ≤ k ∧ listed.getD i true = false) k ⟨Nat.le_refl _, hl⟩
      refine ⟨i, ready_first (by omega) hf (fun j hj => ?_) (htopo i hi)⟩
      have hjs : j < listed.size := by omega
      cases hb : listed.getD j false with
      | true => rfl
      | false =>
        have : listed.getD j true = false := by
          rw [Array.getD_eq_getD_getElem?, Array.getElem?_eq_getElem hjs] at hb ⊢
          simpa using hb
        exact absurd (show j ≤ k ∧ listed.getD j true = false from ⟨by omega, this⟩) (hmin j hj)
    refine ⟨fun h => (by obtain ⟨i, hi⟩ := hne; rw [h] at hi; cases hi), fun i hi => ?_⟩
    obtain ⟨his, hiu⟩ := ready_un hi
    by_cases hik : i = k
    · subst hik
      refine wpOpIn_mono (fun a' w' hq => ?_) (hstore a (fun j hj => hv j hj (ready_waits hi (hlast j hj))) ho)
      refine wpAnyIn_done (ready_done fun j hj => ?_) hq fuel
      rw [getD_set]
      by_cases hji : i = j
      · rw [if_pos ⟨hji, by omega⟩]
      · rw [if_neg (fun h => hji h.1)]
        have := ready_waits hi (hlast j (by omega))
        rw [Array.getD_eq_getD_getElem?, Array.getElem?_eq_getElem (by omega)] at this ⊢
        simpa using this
    · have hilt : i < k := by omega
      refine hstep i hilt a (fun j hj => ?_) ho _ ?_
      · have hw := ready_waits hi (havail i hilt j hj)
        by_cases hjk : j < k
        · exact hv j hjk hw
        · exfalso
          by_cases hj2 : j = k
          · subst hj2
            rw [Array.getD_eq_getD_getElem?, Array.getElem?_eq_getElem (by omega)] at hl hw
            simp at hl hw
            rw [hl] at hw
            cases hw
          · rw [Array.getD_eq_getD_getElem?, Array.getElem?_eq_none (by omega)] at hw
            cases hw
      · refine ih _ _ (by rw [Array.size_setIfInBounds]; exact hls) ?_ ?_ ?_ ?_ ?_
        · rw [getD_set, if_neg (fun h => hik h.1)]
          exact hl
        · have := count_set listed i hiu
          omega
        · simp [Act.put, hsz]
        · intro j hj hjl
          by_cases hji : i = j
          · subst hji
            exact Act.eval_put_same a _ _ (by omega)
          · rw [Act.eval_put_ne a _ _ _ (by omega)]
            rw [getD_set, if_neg (fun h => hji h.1)] at hjl
            exact hv j hj hjl
        · intro s hs
          rw [Act.eval_put_ne a _ _ _ (by omega)]
          exact ho s hs
/-- The same, with what is asked of the operations' order as tests. -/
theorem region_quiet {F : Fence} {n : Nat} {P : Program} {ops : Array Oper} {Q : Exit → Act → World → Prop} {id : Nat} (k d0 : Nat) (vals : List Value) (uses : List (List Nat)) (a0 : Act) (w : World) (hm : P.follows .mixedOrders = true) (hk : ops.size = k + 1) (hN : d0 + k ≤ a0.tmps.size)
    (havail : ((List.range k).all fun i => (uses.getD i []).all fun j => waitsFor ops i j) = true) (htopo : ((List.range (k + 1)).all fun i => laterNone ops i) = true) (hlast : ((List.range k).all fun j => waitsFor ops k j) = true)
    (hstep : ∀ i, i < k → ∀ a : Act, (∀ j ∈ uses.getD i [], a.eval (.tmp (d0 + j)) = vals.getD j undef) → (∀ s, s < d0 ∨ d0 + k ≤ s → a.eval (.tmp s) = a0.eval (.tmp s)) → ∀ K : Act → World → Prop, K (a.put (some (d0 + i)) (vals.getD i undef)) w.drew → wpOpIn F n P ops Q i K a w.drew)
    (hstore : ∀ a : Act, (∀ j, j < k → a.eval (.tmp (d0 + j)) = vals.getD j undef) → (∀ s, s < d0 ∨ d0 + k ≤ s → a.eval (.tmp s) = a0.eval (.tmp s)) → wpOpIn F n P ops Q k (fun a w => Q .normal a w) a w.drew) :
    (Code.region id ops true).wpIn F n P Q a0 w := by
  refine wpIn_region_any hm ?_
  show wpAnyIn F n P .any ops Q ops.size (Array.replicate ops.size false) a0 w.drew
  rw [hk]
  have hr : ∀ (j : Nat) (b : Bool), j < k + 1 → (Array.replicate (k + 1) false).getD j b = false := fun j b hj => by simp [Array.getD_eq_getD_getElem?, hj]
  refine anyIn_quiet k d0 vals (fun i => uses.getD i []) a0 w.drew hk hN (fun i hi j hj => ?_) (fun i hi => ?_) (fun j hj => ?_) hstep hstore (k + 1) _ a0 (by simp) (hr k true (by omega)) (by simp) rfl (fun j hj h => ?_) (fun s _ => rfl)
  · have := List.all_eq_true.1 havail i (List.mem_range.2 hi)
    exact List.all_eq_true.1 this j hj
  · exact List.all_eq_true.1 htopo i (List.mem_range.2 (by omega))
  · exact List.all_eq_true.1 hlast j (List.mem_range.2 hj)
  · rw [hr j false (by omega)] at h
    cases h
theorem opIn_value {F : Fence} {n : Nat} {P : Program} {ops : Array Oper} {Q : Exit → Act → World → Prop} {i : Nat} {o : Oper} {a : Act} {w w' : World} {v : Value} {K : Act → World → Prop} (hi : ops[i]? = some o) (hg : o.guard = none) (hd : ∀ c, o.op ≠ .defer c)
    (hab : o.about P w a.eval = none) (hrun : (execOp a.eval o).run P w = .ok (.value v) w') (hK : K (a.put o.dst v) w') : wpOpIn F n P ops Q i K a w := by
  unfold wpOpIn
  rw [hi]
  have hw : Region.wanted o (yielded ops a.tmps) = true := by simp [Region.wanted, hg]
  simp only [hw, if_true, Oper.wpIn]
  refine ⟨fun f hf => ?_, ?_⟩
  · rw [hab] at hf; cases hf
  · rw [Oper.semAt_plain F _ _ hd, hrun]
    exact hK
theorem opIn_skip {F : Fence} {n : Nat} {P : Program} {ops : Array Oper} {Q : Exit → Act → World → Prop} {i : Nat} {o : Oper} {a : Act} {w w' : World} {K : Act → World → Prop} (hi : ops[i]? = some o) (hg : o.guard = none) (hd : ∀ c, o.op ≠ .defer c)
    (hab : o.about P w a.eval = none) (hrun : (execOp a.eval o).run P w = .ok .skip w') (hK : K (a.put o.dst undef) w') : wpOpIn F n P ops Q i K a w := by
  unfold wpOpIn
  rw [hi]
  have hw : Region.wanted o (yielded ops a.tmps) = true := by simp [Region.wanted, hg]
  simp only [hw, if_true, Oper.wpIn]
  refine ⟨fun f hf => ?_, ?_⟩
  · rw [hab] at hf; cases hf
  · rw [Oper.semAt_plain F _ _ hd, hrun]
    exact hK
end Go.Proofs.YtplkmkbambbemaeGreatDoor
namespace Go.Proofs.YtplkmkbambbemaeGreatDoor
open Go.ChangeShapes Go.WideShapes Go.ChangeAt Go.RowKit
theorem any_inv {P : Program} {ops : Array Oper} {Q : Exit → Act → World → Prop} (k : Nat) (Inv : (Nat → Bool) → Act → World → Prop) (hk : ops.size = k) (htopo : ∀ i, i < k → laterNone ops i = true)
    (hstep : ∀ (L : Nat → Bool) (a : Act) (w : World) (i : Nat), Inv L a w → i < k → L i = false → (∀ j, waitsFor ops i j = true → L j = true) → wpOp P ops Q i (fun a' w' => Inv (fun j => if j = i then true else L j) a' w') a w)
    (hdone : ∀ (L : Nat → Bool) (a : Act) (w : World), (∀ j, j < k → L j = true) → Inv L a w → Q .normal a w) :
    ∀ (fuel : Nat) (listed : Array Bool) (a : Act) (w : World), listed.size = k → listed.toList.count false ≤ fuel → Inv (fun j => listed.getD j false) a w → wpAny P .any ops Q fuel listed a w := by
  have hdn : ∀ (listed : Array Bool) (a : Act) (w : World), listed.size = k → Region.ready .any ops listed = [] → Inv (fun j => listed.getD j false) a w → Q .normal a w := by
    intro listed a w hls hr hi
    refine hdone _ a w (fun j hj => ?_) hi
    show listed.getD j false = true
    by_cases hex : ∃ i, i < k ∧ listed.getD i true = false
    · obtain ⟨i0, hi0⟩ := hex
      obtain ⟨i, ⟨hi1, hf⟩, hmin⟩ := least (p := fun i => i < k ∧ listed.getD i true = false) i0 hi0
      have : i ∈ Region.ready .any ops listed := ready_first (by omega) hf (fun j hj => by
        have hjs : j < listed.size := by omega
        cases hb : listed.getD j false with
        | true => rfl
        | false =>
          have h2 : listed.getD j true = false := by
            rw [Array.getD_eq_getD_getElem?, Array.getElem?_eq_getElem hjs] at hb ⊢
            simpa using hb
          exact absurd (show j < k ∧ listed.getD j true = false from ⟨by omega, h2⟩) (hmin j hj)) (htopo i hi1)
      rw [hr] at this
      cases this
    · have hjs : j < listed.size := by omega
      have h2 : listed.getD j true ≠ false := fun h => hex ⟨j, hj, h⟩
      rw [Array.getD_eq_getD_getElem?, Array.getElem?_eq_getElem hjs] at h2 ⊢
      simpa using h2
  intro fuel
  induction fuel with
  | zero =>
    intro listed a w hls hc hi
    have hr : Region.ready .any ops listed = [] := ready_done fun j hj => by
      have hjs : j < listed.size := by omega
      cases hb : listed.getD j true with
      | true => rfl
      | false =>
        have := count_set listed j hb
        omega
    exact ⟨hr, hdn listed a w hls hr hi⟩
  | succ fuel ih =>
    intro listed a w hls hc hi
    refine ⟨fun hr => hdn listed a w hls hr hi, fun i hir => ?_⟩
    obtain ⟨his, hiu⟩ := ready_un hir
    have hil : i < listed.size := by omega
    refine wpOp_mono (fun a' w' h => ?_) (hstep _ a w i hi (by omega) (by
      rw [Array.getD_eq_getD_getElem?, Array.getElem?_eq_getElem hil] at hiu
      show listed.getD i false = false
      rw [Array.getD_eq_getD_getElem?, Array.getElem?_eq_getElem hil]
      simpa using hiu) (fun j hj => ready_waits hir hj))
    refine ih _ a' w' (by rw [Array.size_setIfInBounds]; exact hls) (by have := count_set listed i hiu; omega) ?_
    have e : (fun j => (listed.setIfInBounds i true).getD j false) = fun j => if j = i then true else listed.getD j false := by
      funext j
      rw [getD_set]
      by_cases h1 : j = i
      · subst h1
        rw [if_pos ⟨rfl, hil⟩, if_pos rfl]
      · rw [if_neg (fun h => h1 h.1.symm), if_neg h1]
    rw [e]
    exact h
theorem region_inv {P : Program} {ops : Array Oper} {Q : Exit → Act → World → Prop} {id : Nat} (k : Nat) (Inv : (Nat → Bool) → Act → World → Prop) (a0 : Act) (w : World) (hm : P.follows .mixedOrders = true) (hk : ops.size = k) (htopo : ((List.range k).all fun i => laterNone ops i) = true)
    (h0 : Inv (fun _ => false) a0 w.drew)
    (hstep : ∀ (L : Nat → Bool) (a : Act) (w : World) (i : Nat), Inv L a w → i < k → L i = false → (∀ j, waitsFor ops i j = true → L j = true) → wpOp P ops Q i (fun a' w' => Inv (fun j => if j = i then true else L j) a' w') a w)
    (hdone : ∀ (L : Nat → Bool) (a : Act) (w : World), (∀ j, j < k → L j = true) → Inv L a w → Q .normal a w) : (Code.region id ops true).wp P Q a0 w := by
  refine wp_region_any hm ?_
  show wpAny P .any ops Q ops.size (Array.replicate ops.size false) a0 w.drew
  rw [hk]
  refine any_inv k Inv hk (fun i hi => List.all_eq_true.1 htopo i (List.mem_range.2 hi)) hstep hdone k _ a0 w.drew (by simp) (by simp) ?_
  have e : (fun j => (Array.replicate k false).getD j false) = fun _ : Nat => false := by
    funext j
    rw [Array.getD_eq_getD_getElem?, Array.getElem?_replicate]
    split <;> rfl
  rw [e]
  exact h0
theorem act_known (a : Act) (lst : List Value) (hs : a.tmps.size = lst.length) (hd : a.defers = []) (h : ∀ s : Nat, s < lst.length → a.eval (.tmp s) = lst.getD s undef) : a = { tmps := lst.toArray, defers := [] } := by
  obtain ⟨t, d⟩ := a
  simp only at hs hd
  subst hd
  congr 1
  refine Array.ext (by simpa using hs) fun i i1 i2 => ?_
  have hti : t[i] = t.getD i undef := by simp [Array.getD, i1]
  have := h i (by omega)
  have hev : ({ tmps := t, defers := [] } : Act).eval (.tmp i) = t.getD i undef := rfl
  rw [hti, ← hev, this]
  simp [List.getD, show i < lst.length by omega]
/-- A region each of whose operations has one answer, whatever the order; nothing that lay is changed. 'd': the slot that each writes; 'reads': the slots that each reads; 'lst': all slots behind it. -/
theorem region_known {P : Program} {ops : Array Oper} {id : Nat} (k : Nat) (d : List Nat) (reads : List (List Nat)) (lst : List Value) (a0 : Act) (wr : World) (hm : P.follows .mixedOrders = true) (hk : ops.size = k) (hd0 : a0.defers = []) (hsz : a0.tmps.size = lst.length)
    (hdN : ((List.range k).all fun i => decide (d.getD i 0 < lst.length)) = true) (havail : ((List.range k).all fun i => (reads.getD i []).all fun s => (List.range k).all fun j => (d.getD j 0 != s) || waitsFor ops i j) = true) (htopo : ((List.range k).all fun i => laterNone ops i) = true)
    (hrN : ((List.range k).all fun i => (reads.getD i []).all fun s => decide (s < lst.length)) = true)
    (h0 : ∀ s : Nat, s < lst.length → ((List.range k).all fun i => d.getD i 0 != s) = true → a0.eval (.tmp s) = lst.getD s undef)
    (hstep : ∀ i, i < k → ∀ (a : Act) (w : World), Below wr.heap.size wr w → (∀ s ∈ reads.getD i [], a.eval (.tmp s) = lst.getD s undef) → ∀ K : Act → World → Prop, (∀ w', Below wr.heap.size wr w' → K (a.put (some (d.getD i 0)) (lst.getD (d.getD i 0) undef)) w') → wpOp P ops (fun e a' w' => e = .normal ∧ a' = { tmps := lst.toArray, defers := [] } ∧ Below wr.heap.size wr w') i K a w) :
    (Code.region id ops true).wp P (fun e a' w' => e = .normal ∧ a' = { tmps := lst.toArray, defers := [] } ∧ Below wr.heap.size wr w') a0 wr := by
  have hdl : ∀ i, i < k → d.getD i 0 < lst.length := fun i hi => of_decide_eq_true (List.all_eq_true.1 hdN i (List.mem_range.2 hi))
  refine region_inv k (fun L a w => a.tmps.size = a0.tmps.size ∧ a.defers = [] ∧ Below wr.heap.size wr w ∧ ∀ s : Nat, s < lst.length → (∀ i, i < k → d.getD i 0 = s → L i = true) → a.eval (.tmp s) = lst.getD s undef) a0 wr hm hk htopo ?_ ?_ ?_
  · refine ⟨rfl, hd0, (Below.refl _ wr).drew, fun s hs h => h0 s hs (List.all_eq_true.2 fun i hi => ?_)⟩
    rw [bne_iff_ne]
    intro e
    have := h i (List.mem_range.1 hi) e
    cases this
  · rintro L a w i ⟨h1, h2, h3, h4⟩ hi hLi hw
    refine hstep i hi a w h3 (fun s hs => h4 s ?_ (fun j hj e => hw j ?_)) _ (fun w' hb => ⟨by simp [Act.put, h1], h2, hb, fun s hs h => ?_⟩)
    · exact of_decide_eq_true (List.all_eq_true.1 (List.all_eq_true.1 hrN i (List.mem_range.2 hi)) s hs)
    · have := List.all_eq_true.1 (List.all_eq_true.1 (List.all_eq_true.1 havail i (List.mem_range.2 hi)) s hs) j (List.mem_range.2 hj)
      rw [e] at this
      simpa using this
    · by_cases e : d.getD i 0 = s
      · subst e
        exact Act.eval_put_same a _ _ (by rw [h1, hsz]; exact hs)
      · rw [Act.eval_put_ne a _ _ _ e]
        refine h4 s hs (fun j hj ej => ?_)
        have : (if j = i then true else L j) = true := h j hj ej
        by_cases hji : j = i
        · subst hji; exact absurd ej e
        · rw [if_neg hji] at this; exact this
  · rintro L a w hL ⟨h1, h2, h3, h4⟩
    exact ⟨rfl, act_known a lst (h1.trans hsz) h2 (fun s hs => h4 s hs (fun i hi _ => hL i hi)), h3⟩
def setAll (l : List Value) : List (Nat × Value) → List Value
  | [] => l
  | q :: t => setAll (l.set q.1 q.2) t
theorem setAll_length (t : List (Nat × Value)) : ∀ l : List Value, (setAll l t).length = l.length := by
  induction t with
  | nil => intro l; rfl
  | cons q t ih => intro l; rw [setAll, ih, List.length_set]
theorem setAll_other (t : List (Nat × Value)) : ∀ (l : List Value) (s : Nat), (∀ q ∈ t, q.1 ≠ s) → (setAll l t).getD s undef = l.getD s undef := by
  induction t with
  | nil => intro l s _; rfl
  | cons q t ih =>
    intro l s h
    rw [setAll, ih _ s (fun q hq => h q (List.mem_cons_of_mem _ hq))]
    simp [List.getD, h q (by simp)]
/-- The same, by what each operation writes alone. -/
theorem region_known2 {P : Program} {ops : Array Oper} {id : Nat} {l0 : List Value} (k : Nat) (dv : List (Nat × Value)) (reads : List (List Nat)) (wr : World) (hm : P.follows .mixedOrders = true) (hk : ops.size = k) (hdk : dv.length = k)
    (hdN : ((List.range k).all fun i => decide ((dv.getD i (0, undef)).1 < l0.length)) = true) (havail : ((List.range k).all fun i => (reads.getD i []).all fun s => (List.range k).all fun j => ((dv.getD j (0, undef)).1 != s) || waitsFor ops i j) = true) (htopo : ((List.range k).all fun i => laterNone ops i) = true)
    (hrN : ((List.range k).all fun i => (reads.getD i []).all fun s => decide (s < l0.length)) = true)
    (hstep : ∀ i, i < k → ∀ (a : Act) (w : World), Below wr.heap.size wr w → (∀ s ∈ reads.getD i [], a.eval (.tmp s) = (setAll l0 dv).getD s undef) → ∀ K : Act → World → Prop, (∀ w', Below wr.heap.size wr w' → K (a.put (some (dv.getD i (0, undef)).1) ((setAll l0 dv).getD (dv.getD i (0, undef)).1 undef)) w') → wpOp P ops (fun e a' w' => e = .normal ∧ a' = { tmps := (setAll l0 dv).toArray, defers := [] } ∧ Below wr.heap.size wr w') i K a w) :
    (Code.region id ops true).wp P (fun e a' w' => e = .normal ∧ a' = { tmps := (setAll l0 dv).toArray, defers := [] } ∧ Below wr.heap.size wr w') { tmps := l0.toArray, defers := [] } wr := by
  have hd : ∀ i, i < k → (dv.map (·.1)).getD i 0 = (dv.getD i (0, undef)).1 := fun i hi => by simp [List.getD, show i < dv.length by omega]
  have hl := setAll_length dv l0
  have cong : ∀ (f g : Nat → Bool), (∀ i, i < k → f i = g i) → ((List.range k).all f) = ((List.range k).all g) := fun f g h => by
    rw [Bool.eq_iff_iff, List.all_eq_true, List.all_eq_true]
    exact ⟨fun h1 i hi => by rw [← h i (List.mem_range.1 hi)]; exact h1 i hi, fun h1 i hi => by rw [h i (List.mem_range.1 hi)]; exact h1 i hi⟩
  refine region_known k (dv.map (·.1)) reads (setAll l0 dv) _ wr hm hk rfl (by rw [hl]; simp) ?_ ?_ htopo (by rw [hl]; exact hrN) (fun s hs hall => ?_) (fun i hi a w hb hr K hK => hstep i hi a w hb hr K (by rw [hd i hi] at hK; exact hK))
  · rw [hl, ← hdN]
    exact cong _ _ (fun i hi => by rw [hd i hi])
  · rw [← havail]
    refine cong _ _ (fun i hi => ?_)
    congr 1
    funext s
    exact cong _ _ (fun j hj => by rw [hd j hj])
  · rw [setAll_other dv l0 s (fun q hq e => ?_)]
    · rw [hl] at hs
      simp [Act.eval, List.getD]
    · obtain ⟨i, hi, rfl⟩ := List.getElem_of_mem hq
      have := List.all_eq_true.1 hall i (List.mem_range.2 (by omega))
      simp [List.getD, hi] at this
      exact this e
theorem beq_ne {a b : Nat} (h : a ≠ b) : Nat.beq a b = false := by
  cases hb : Nat.beq a b with
  | false => rfl
  | true => exact absurd (Nat.eq_of_beq_eq_true hb) h
/-- What a slot holds behind it all. -/
def lkp (l0 : List Value) : List (Nat × Value) → Nat → Value
  | [], s => l0.getD s undef
  | q :: t, s => match Nat.beq q.1 s with
    | true => q.2
    | false => lkp l0 t s
theorem lkp_set {l0 : List Value} {i : Nat} {v : Value} : ∀ (t : List (Nat × Value)) (s : Nat), i ≠ s → lkp (l0.set i v) t s = lkp l0 t s
  | [], s, h => by simp [lkp, List.getD, h]
  | q :: t, s, h => by
    rw [lkp, lkp, lkp_set t s h]
theorem lkp_none {l0 : List Value} : ∀ (t : List (Nat × Value)) (s : Nat), (∀ q ∈ t, q.1 ≠ s) → lkp l0 t s = l0.getD s undef
  | [], s, _ => rfl
  | q :: t, s, h => by
    have h1 : Nat.beq q.1 s = false := beq_ne (h q (by simp))
    rw [lkp, h1]
    exact lkp_none t s (fun q hq => h q (List.mem_cons_of_mem _ hq))
theorem setAll_lkp (t : List (Nat × Value)) : ∀ (l0 : List Value) (s : Nat), (t.map (·.1)).Nodup → (∀ q ∈ t, q.1 < l0.length) → (setAll l0 t).getD s undef = lkp l0 t s := by
  induction t with
  | nil => intro l0 s _ _; rfl
  | cons q t ih =>
    intro l0 s hn hl
    rw [List.map_cons, List.nodup_cons] at hn
    rw [setAll, ih _ s hn.2 (fun p hp => by rw [List.length_set]; exact hl p (List.mem_cons_of_mem _ hp)), lkp]
    by_cases e : q.1 = s
    · subst e
      have h1 : Nat.beq q.1 q.1 = true := Nat.beq_refl q.1
      rw [h1, lkp_none t _ (fun p hp he => hn.1 (List.mem_map.2 ⟨p, hp, he⟩))]
      simp [List.getD, hl q (by simp)]
    · have h1 : Nat.beq q.1 s = false := beq_ne e
      rw [h1]
      exact lkp_set t s e
theorem lkp_at (l0 : List Value) (t : List (Nat × Value)) (hn : (t.map (·.1)).Nodup) : ∀ i, i < t.length → lkp l0 t (t.getD i (0, undef)).1 = (t.getD i (0, undef)).2 := by
  induction t with
  | nil => intro i hi; simp at hi
  | cons q t ih =>
    intro i hi
    rw [List.map_cons, List.nodup_cons] at hn
    cases i with
    | zero => simp [lkp, List.getD]
    | succ i =>
      have hi' : i < t.length := by simpa using hi
      have e : (q :: t).getD (i + 1) (0, undef) = t.getD i (0, undef) := by simp [List.getD]
      rw [e, lkp]
      have hm : (t.getD i (0, undef)) ∈ t := by
        have e2 : t.getD i (0, undef) = t[i] := by simp [List.getD, hi']
        rw [e2]
        exact List.getElem_mem hi'
      have h1 : Nat.beq q.1 (t.getD i (0, undef)).1 = false := beq_ne (fun h => hn.1 (List.mem_map.2 ⟨_, hm, h.symm⟩))
      rw [h1]
      exact ih hn.2 i hi'
/-- The same; what an operation reads is looked up among what was written, then in the frame. -/
theorem region_known3 {P : Program} {ops : Array Oper} {id : Nat} {l0 : List Value} (k : Nat) (dv : List (Nat × Value)) (reads : List (List Nat)) (wr : World) (hm : P.follows .mixedOrders = true) (hk : ops.size = k) (hdk : dv.length = k) (hnd : (dv.map (·.1)).Nodup)
    (hdN : ((List.range k).all fun i => decide ((dv.getD i (0, undef)).1 < l0.length)) = true) (havail : ((List.range k).all fun i => (reads.getD i []).all fun s => (List.range k).all fun j => ((dv.getD j (0, undef)).1 != s) || waitsFor ops i j) = true) (htopo : ((List.range k).all fun i => laterNone ops i) = true)
    (hrN : ((List.range k).all fun i => (reads.getD i []).all fun s => decide (s < l0.length)) = true)
    (hstep : ∀ i, i < k → ∀ (a : Act) (w : World), Below wr.heap.size wr w → (∀ s ∈ reads.getD i [], a.eval (.tmp s) = lkp l0 dv s) → ∀ (Q : Exit → Act → World → Prop) (K : Act → World → Prop), (∀ w', Below wr.heap.size wr w' → K (a.put (some (dv.getD i (0, undef)).1) (dv.getD i (0, undef)).2) w') → wpOp P ops Q i K a w) :
    (Code.region id ops true).wp P (fun e a' w' => e = .normal ∧ a' = { tmps := (setAll l0 dv).toArray, defers := [] } ∧ Below wr.heap.size wr w') { tmps := l0.toArray, defers := [] } wr := by
  have hlt : ∀ q ∈ dv, q.1 < l0.length := fun q hq => by
    obtain ⟨i, hi, rfl⟩ := List.getElem_of_mem hq
    have := of_decide_eq_true (List.all_eq_true.1 hdN i (List.mem_range.2 (by omega)))
    simpa [List.getD, hi] using this
  have hse : ∀ s, (setAll l0 dv).getD s undef = lkp l0 dv s := fun s => setAll_lkp dv l0 s hnd hlt
  refine region_known2 k dv reads wr hm hk hdk hdN havail htopo hrN (fun i hi a w hb hr K hK => hstep i hi a w hb (fun s hs => (hr s hs).trans (hse s)) _ K (fun w' hb' => ?_))
  have := hK w' hb'
  rw [hse, lkp_at l0 dv hnd i (by omega)] at this
  exact this
theorem op_value {P : Program} {ops : Array Oper} {Q : Exit → Act → World → Prop} {i : Nat} {o : Oper} {a : Act} {w w' : World} {v : Value} {K : Act → World → Prop} (hi : ops[i]? = some o) (hg : o.guard = none)
    (hrun : (execOp a.eval o).run P w = .ok (.value v) w') (hK : K (a.put o.dst v) w') : wpOp P ops Q i K a w := by
  unfold wpOp
  rw [hi]
  have hw : Region.wanted o (yielded ops a.tmps) = true := by simp [Region.wanted, hg]
  simp only [hw, if_true, Oper.wp]
  left
  rw [hrun]
  exact hK
end Go.Proofs.YtplkmkbambbemaeGreatDoor
namespace Go.Proofs.YtplkmkbambbemaeGreatDoor
open Go.ChangeShapes Go.WideShapes Go.ChangeAt Go.RowKit
theorem run_moveQ {ρ : Operand → Value} {P : Program} (w : World) {o : Oper} {x : Operand} {v : Value} (ho : o.op = .move x) (h : ρ x = v) : (execOp ρ o).run P w = .ok (.value v) w := by
  unfold execOp
  simp only [ho, h]
  simp [go_sem]
theorem run_loadI {ρ : Operand → Value} (w : World) {o : Oper} {x : Operand} {g j : Nat} {v : Value} (ho : o.op = .load 3 x) (h : ρ x = .pointer (some ⟨g, j, none⟩)) (hc : w.cell? ⟨g, j, none⟩ = some v) : (execOp ρ o).run Tryz.prog w = .ok (.value v) w := by
  unfold execOp
  simp only [ho, h]
  simp [go_sem, hc]
theorem run_loadB {ρ : Operand → Value} (w : World) {o : Oper} {x : Operand} {g j : Nat} {v : Value} (ho : o.op = .load 5 x) (h : ρ x = .pointer (some ⟨g, j, none⟩)) (hc : w.cell? ⟨g, j, none⟩ = some v) : (execOp ρ o).run Tryz.prog w = .ok (.value v) w := by
  unfold execOp
  simp only [ho, h]
  simp [go_sem, hc]
theorem run_loadSI {ρ : Operand → Value} (w : World) {o : Oper} {x : Operand} {g j : Nat} {v : Value} (ho : o.op = .load 22 x) (h : ρ x = .pointer (some ⟨g, j, none⟩)) (hc : w.cell? ⟨g, j, none⟩ = some v) : (execOp ρ o).run Tryz.prog w = .ok (.value v) w := by
  unfold execOp
  simp only [ho, h]
  simp [go_sem, hc]
theorem run_loadSB {ρ : Operand → Value} (w : World) {o : Oper} {x : Operand} {g j : Nat} {v : Value} (ho : o.op = .load 55 x) (h : ρ x = .pointer (some ⟨g, j, none⟩)) (hc : w.cell? ⟨g, j, none⟩ = some v) : (execOp ρ o).run Tryz.prog w = .ok (.value v) w := by
  unfold execOp
  simp only [ho, h]
  simp [go_sem, hc]
theorem run_idxI {ρ : Operand → Value} (w : World) {o : Oper} {x y : Operand} {g s j n c : Nat} (ho : o.op = .indexAddr 22 x y) (h : ρ x = .slice (some ⟨g, s, none⟩) n c) (h' : ρ y = .int .i64 j) (hj : j < n) : (execOp ρ o).run Tryz.prog w = .ok (.value (.pointer (some ⟨g, s + j, none⟩))) w := by
  unfold execOp
  simp only [ho, h, h']
  simp [go_sem, Tryz.underlying22, hj]
theorem run_idxB {ρ : Operand → Value} (w : World) {o : Oper} {x y : Operand} {g s j n c : Nat} (ho : o.op = .indexAddr 55 x y) (h : ρ x = .slice (some ⟨g, s, none⟩) n c) (h' : ρ y = .int .i64 j) (hj : j < n) : (execOp ρ o).run Tryz.prog w = .ok (.value (.pointer (some ⟨g, s + j, none⟩))) w := by
  unfold execOp
  simp only [ho, h, h']
  simp [go_sem, Tryz.underlying55, hj]
theorem run_addI {ρ : Operand → Value} (w : World) {o : Oper} {x y : Operand} {p q : Int} (ho : o.op = .binOp .add 3 x y 3) (h : ρ x = .int .i64 p) (h' : ρ y = .int .i64 q) (hw : IntKind.i64.wrap (p + q) = p + q) : (execOp ρ o).run Tryz.prog w = .ok (.value (.int .i64 (p + q))) w := by
  unfold execOp
  simp only [ho, h, h']
  simp [go_sem, hw]
theorem run_storeI {ρ : Operand → Value} (w : World) {o : Oper} {x y : Operand} {g j : Nat} {p q : Int} (ho : o.op = .store 3 x y) (h : ρ x = .pointer (some ⟨g, j, none⟩)) (h' : ρ y = .int .i64 q) (hc : w.cell? ⟨g, j, none⟩ = some (.int .i64 p)) (hf : w.frozen? ⟨g, j, none⟩ = false) : (execOp ρ o).run Tryz.prog w = .ok .skip (w.setCell ⟨g, j, none⟩ (.int .i64 q)) := by
  unfold execOp
  simp only [ho, h, h']
  simp [go_sem, hc, hf]
theorem run_storeB {ρ : Operand → Value} (w : World) {o : Oper} {x y : Operand} {g j : Nat} {p q : Int} (ho : o.op = .store 5 x y) (h : ρ x = .pointer (some ⟨g, j, none⟩)) (h' : ρ y = .int .u8 q) (hc : w.cell? ⟨g, j, none⟩ = some (.int .u8 p)) (hf : w.frozen? ⟨g, j, none⟩ = false) : (execOp ρ o).run Tryz.prog w = .ok .skip (w.setCell ⟨g, j, none⟩ (.int .u8 q)) := by
  unfold execOp
  simp only [ho, h, h']
  simp [go_sem, hc, hf]
end Go.Proofs.YtplkmkbambbemaeGreatDoor
namespace Go.Proofs.YtplkmkbambbemaeGreatDoor
open Go.ChangeShapes Go.WideShapes Go.ChangeAt Go.RowKit
/-- A list of lists of one's own. -/
def OwnR (w : World) (B : Nat) (v : Value) (vs : List Value) : Prop := w.ownsRow B 55 1 v vs.length vs
end Go.Proofs.YtplkmkbambbemaeGreatDoor
namespace Go.Proofs.YtplkmkbambbemaeGreatDoor
open Go.ChangeShapes Go.WideShapes Go.ChangeAt Go.RowKit
theorem own_growW {w w' : World} {B : Nat} {e : TypeId} {v : Value} {n : Nat} {xs : List Value} {row : Option Nat} (h : w.ownsRow B e 1 v n xs) (hg : w.grownBy w' row) (hr : ∀ k, row = some k → v.ownBlock ≠ some k) : w'.ownsRow B e 1 v n xs := by
  refine ⟨h.1, ?_⟩
  rcases h.2 with h' | ⟨g, cap, cur, h1, h2, h3, h4⟩
  · exact .inl h'
  · have hlt : g < w.heap.size := by
      rcases Nat.lt_or_ge g w.heap.size with hl | hl
      · exact hl
      · rw [Array.getElem?_eq_none hl] at h3; cases h3
    refine .inr ⟨g, cap, cur, h1, h2, (hg.block g hlt (fun e => hr g e.symm ?_)).trans h3, h4⟩
    rw [h1]; rfl
theorem cell_grown {w w' : World} {row : Option Nat} {p : Addr} {v : Value} (h : w.cell? p = some v) (hg : w.grownBy w' row) (hr : ∀ g, row = some g → g ≠ p.block) : w'.cell? p = some v := by
  have := hg.block p.block (World.block_lt_of_cell? w _ h) (fun e => hr _ e.symm rfl)
  rw [← h]
  simp only [World.cell?, this]
/-- One of the two: a copy of l (v5, once b5), the one more number (v6, once b6), both (v7, once b7); its blocks S. -/
structure Ch (w : World) (B0 : Nat) (l : List Int) (x : Int) (v5 v6 v7 : Value) (b5 b6 b7 : Bool) (S : List Nat) : Prop where
  lt : ∀ g ∈ S, B0 ≤ g ∧ g < w.heap.size
  five : b5 = true → b7 = false → Own w B0 v5 l ∧ ∀ g, v5.ownBlock = some g → g ∈ S
  six : b6 = true → b7 = false → ∃ g ∈ S, v6 = .slice (some ⟨g, 0, none⟩) 1 1 ∧ w.cell? ⟨g, 0, none⟩ = some (.int .u8 x)
  seven : b7 = true → Own w B0 v7 (l ++ [x]) ∧ ∀ g, v7.ownBlock = some g → g ∈ S
end Go.Proofs.YtplkmkbambbemaeGreatDoor
namespace Go.Proofs.YtplkmkbambbemaeGreatDoor
open Go.ChangeShapes Go.WideShapes Go.ChangeAt Go.RowKit
def conDeps : Nat → List Nat
  | 3 => [1, 2]
  | 4 => [3]
  | 5 => [4]
  | 7 => [5, 6]
  | 10 => [8, 9]
  | 11 => [10]
  | 12 => [11]
  | 14 => [12, 13]
  | 15 => [7, 14]
  | 16 => [0, 15]
  | 17 => [16]
  | _ => []
def upd (L : Nat → Bool) (i : Nat) : Nat → Bool := fun j => if j = i then true else L j
theorem upd_same (L : Nat → Bool) (i : Nat) : upd L i i = true := if_pos rfl
theorem upd_other (L : Nat → Bool) {i j : Nat} (h : j ≠ i) : upd L i j = L j := if_neg h
def Clos (L : Nat → Bool) : Prop := ∀ i j, j ∈ conDeps i → L i = true → L j = true
theorem Clos.upd {L : Nat → Bool} (h : Clos L) {i : Nat} (hi : ∀ j ∈ conDeps i, L j = true) : Clos (upd L i) := by
  intro p j hj hp
  by_cases hji : j = i
  · rw [hji]; exact upd_same L i
  · rw [upd_other L hji]
    by_cases hpi : p = i
    · subst hpi; exact hi j hj
    · rw [upd_other L hpi] at hp
      exact h p j hj hp
/-- Behind the last but two all is done. -/
theorem Clos.all15 {L : Nat → Bool} (h : Clos L) (h15 : L 15 = true) : ∀ j, 1 ≤ j → j ≤ 15 → L j = true := by
  have l7 := h 15 7 (by decide) h15
  have l14 := h 15 14 (by decide) h15
  have l5 := h 7 5 (by decide) l7
  have l6 := h 7 6 (by decide) l7
  have l4 := h 5 4 (by decide) l5
  have l3 := h 4 3 (by decide) l4
  have l2 := h 3 2 (by decide) l3
  have l1 := h 3 1 (by decide) l3
  have l12 := h 14 12 (by decide) l14
  have l13 := h 14 13 (by decide) l14
  have l11 := h 12 11 (by decide) l12
  have l10 := h 11 10 (by decide) l11
  have l9 := h 10 9 (by decide) l10
  have l8 := h 10 8 (by decide) l10
  intro j h1 h2
  have : j = 1 ∨ j = 2 ∨ j = 3 ∨ j = 4 ∨ j = 5 ∨ j = 6 ∨ j = 7 ∨ j = 8 ∨ j = 9 ∨ j = 10 ∨ j = 11 ∨ j = 12 ∨ j = 13 ∨ j = 14 ∨ j = 15 := by omega
  rcases this with rfl | rfl | rfl | rfl | rfl | rfl | rfl | rfl | rfl | rfl | rfl | rfl | rfl | rfl | rfl <;> assumption
/-- Ahead of the last append. -/
structure ConI (wr : World) (a0 : Act) (pv : Nat → Option Value) (l : List Int) (L : Nat → Bool) (a : Act) (w : World) : Prop where
  size : a.tmps.size = a0.tmps.size
  defers : a.defers = a0.defers
  below : Below wr.heap.size wr w
  frame : ∀ s : Nat, s < 22 ∨ 38 < s → a.eval (.tmp s) = a0.eval (.tmp s)
  pure : ∀ i v, pv i = some v → L i = true → a.eval (.tmp (22 + i)) = v
  clos : Clos L
  ch : ∃ SA SB, (∀ g ∈ SA, g ∉ SB) ∧ Ch w wr.heap.size l 0 (a.eval (.tmp 27)) (a.eval (.tmp 28)) (a.eval (.tmp 29)) (L 5) (L 6) (L 7) SA ∧ Ch w wr.heap.size l 1 (a.eval (.tmp 34)) (a.eval (.tmp 35)) (a.eval (.tmp 36)) (L 12) (L 13) (L 14) SB
  last : L 15 = true → ∃ g, wr.heap.size ≤ g ∧ a.eval (.tmp 37) = .slice (some ⟨g, 0, none⟩) 2 2 ∧ w.cell? ⟨g, 0, none⟩ = some (a.eval (.tmp 29)) ∧ w.cell? ⟨g, 1, none⟩ = some (a.eval (.tmp 36))
  no16 : L 16 = false
/-- What every operation ahead of the last append leaves as it was. -/
theorem ConI.step {wr : World} {a0 : Act} {pv : Nat → Option Value} {l : List Int} {L : Nat → Bool} {a : Act} {w w' : World} {i : Nat} {v : Value} {row : Option Nat} (h : ConI wr a0 pv l L a w) (hi : i ≤ 14) (hN : 39 ≤ a0.tmps.size) (hLi : L i = false)
    (hd : ∀ j ∈ conDeps i, L j = true) (hg : w.grownBy w' row) (hr : ∀ g, row = some g → wr.heap.size ≤ g) (hp : ∀ u, pv i = some u → v = u) (h0 : i = 0 → w' = w)
    (hch : ∃ SA SB, (∀ g ∈ SA, g ∉ SB) ∧ Ch w' wr.heap.size l 0 ((a.put (some (22 + i)) v).eval (.tmp 27)) ((a.put (some (22 + i)) v).eval (.tmp 28)) ((a.put (some (22 + i)) v).eval (.tmp 29)) (upd L i 5) (upd L i 6) (upd L i 7) SA ∧ Ch w' wr.heap.size l 1 ((a.put (some (22 + i)) v).eval (.tmp 34)) ((a.put (some (22 + i)) v).eval (.tmp 35)) ((a.put (some (22 + i)) v).eval (.tmp 36)) (upd L i 12) (upd L i 13) (upd L i 14) SB) :
    ConI wr a0 pv l (upd L i) (a.put (some (22 + i)) v) w' := by
  refine ⟨by simp [Act.put, h.size], h.defers, h.below.grown hg h.below.size hr, fun s hs => ?_, fun j u hj hL => ?_, h.clos.upd hd, hch, fun h15 => ?_, ?_⟩
  · rw [Act.eval_put_ne a _ _ _ (by omega)]
    exact h.frame s hs
  · by_cases hji : j = i
    · subst hji
      rw [Act.eval_put_same a _ _ (by rw [h.size]; omega)]
      exact hp u hj
    · rw [upd_other L hji] at hL
      rw [Act.eval_put_ne a _ _ _ (by omega)]
      exact h.pure j u hj hL
  · rw [upd_other L (by omega)] at h15
    by_cases hi0 : i = 0
    · obtain rfl := h0 hi0
      obtain ⟨g, h1, h2, h3, h4⟩ := h.last h15
      refine ⟨g, h1, ?_, ?_, ?_⟩
      · rw [Act.eval_put_ne a _ _ _ (by omega)]; exact h2
      · rw [Act.eval_put_ne a _ _ _ (by omega)]; exact h3
      · rw [Act.eval_put_ne a _ _ _ (by omega)]; exact h4
    · have := h.clos.all15 h15 i (by omega) (by omega)
      rw [hLi] at this
      cases this
  · rw [upd_other L (by omega)]
    exact h.no16
theorem grown_refl (w : World) : w.grownBy w none := ⟨rfl, rfl, rfl, Nat.le_refl _, fun _ _ _ => rfl⟩
/-- A step that only reads. -/
theorem ConI.read {wr : World} {a0 : Act} {pv : Nat → Option Value} {l : List Int} {L : Nat → Bool} {a : Act} {w : World} {i : Nat} {v : Value} (h : ConI wr a0 pv l L a w) (hi : i ≤ 4 ∨ (8 ≤ i ∧ i ≤ 11)) (hN : 39 ≤ a0.tmps.size) (hLi : L i = false)
    (hd : ∀ j ∈ conDeps i, L j = true) (hp : pv i = some v) : ConI wr a0 pv l (upd L i) (a.put (some (22 + i)) v) w := by
  refine h.step (row := none) (by omega) hN hLi hd (grown_refl w) (fun g e => by cases e) (fun u hu => by rw [hp] at hu; exact Option.some.inj hu) (fun _ => rfl) ?_
  obtain ⟨SA, SB, h1, h2, h3⟩ := h.ch
  refine ⟨SA, SB, h1, ?_, ?_⟩
  · rw [Act.eval_put_ne a _ _ _ (by omega), Act.eval_put_ne a _ _ _ (by omega), Act.eval_put_ne a _ _ _ (by omega), upd_other L (by omega), upd_other L (by omega), upd_other L (by omega)]
    exact h2
  · rw [Act.eval_put_ne a _ _ _ (by omega), Act.eval_put_ne a _ _ _ (by omega), Act.eval_put_ne a _ _ _ (by omega), upd_other L (by omega), upd_other L (by omega), upd_other L (by omega)]
    exact h3
end Go.Proofs.YtplkmkbambbemaeGreatDoor
namespace Go.Proofs.YtplkmkbambbemaeGreatDoor
open Go.ChangeShapes Go.WideShapes Go.ChangeAt Go.RowKit
/-- Lists of bits, each of one's own. -/
def RowsB (w : World) (B : Nat) (vs : List Value) (LL : List (List Int)) : Prop := vs.length = LL.length ∧ ∀ i, i < LL.length → Own w B (vs.getD i undef) (LL.getD i [])
theorem RowsB.grow {w w' : World} {B : Nat} {vs : List Value} {LL : List (List Int)} {row : Option Nat} (h : RowsB w B vs LL) (hg : w.grownBy w' row) (hr : ∀ g, row = some g → ∀ i, i < LL.length → (vs.getD i undef).ownBlock ≠ some g) : RowsB w' B vs LL :=
  ⟨h.1, fun i hi => own_growW (h.2 i hi) hg (fun k hk => hr k hk i hi)⟩
theorem grown_of_below {w w' : World} (h : Below w.heap.size w w') : w.grownBy w' none := ⟨h.os, h.tape, h.output, h.size, fun k hk _ => h.block k hk⟩
theorem RowsB.below {w w' : World} {B : Nat} {vs : List Value} {LL : List (List Int)} (h : RowsB w B vs LL) (hb : Below w.heap.size w w') : RowsB w' B vs LL := h.grow (grown_of_below hb) (fun g e => by cases e)
theorem OwnR.cell {w : World} {B g n c : Nat} {vs : List Value} (h : OwnR w B (.slice (some ⟨g, 0, none⟩) n c) vs) {i : Nat} (hi : i < vs.length) : w.cell? ⟨g, i, none⟩ = some (vs.getD i undef) := by
  have hl : vs.length = n := by
    rcases h.2 with ⟨h', _⟩ | ⟨g', cap', cur', h', _⟩
    · cases h'
    · simp only [Value.slice.injEq] at h'
      exact h'.2.1.symm
  subst hl
  unfold OwnR at h
  rw [h.cellAt i (by omega)]
  simp [List.getD, hi]
theorem OwnR.shape1 {w : World} {B : Nat} {v : Value} {vs : List Value} (h : OwnR w B v vs) (h1 : 1 ≤ vs.length) : ∃ g c, v = .slice (some ⟨g, 0, none⟩) vs.length c ∧ vs.length ≤ c ∧ c ≤ maxLen ∧ g < w.heap.size := by
  rcases h.2 with ⟨_, h0⟩ | ⟨g, cap, cur, h', _, hg, h2, h3, _⟩
  · omega
  · exact ⟨g, cap, h', h2, h3, (Array.getElem?_eq_some_iff.1 hg).1⟩
theorem OwnR.below {w w' : World} {B : Nat} {v : Value} {vs : List Value} (h : OwnR w B v vs) (hb : Below w.heap.size w w') : OwnR w' B v vs := own_growW h (grown_of_below hb) (fun k e => by cases e)
end Go.Proofs.YtplkmkbambbemaeGreatDoor
