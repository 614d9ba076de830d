import Derived.Test.YtmdfjhnibhmdkafDoorBase
import Derived.OrdersIn
import Derived.OwnWalkIn
import Derived.Great.Frames
namespace Go.Proofs.YtmdfjhnibhmdkafDoor
open Go.ChangeShapes Go.WideShapes Go.ChangeAt Go.RowKit

/-! A REGION THAT DRAWS ITS ORDER, ALL OF WHOSE OPERATIONS BUT THE LAST ONLY READ: whatever the order, the same. -/

/-- Operation i waits for operation j. -/
def waitsFor (ops : Array Oper) (i j : Nat) : Bool := ((ops[i]?).map fun o => o.after.any fun e => e.on == j && Region.binds .any e).getD false
/-- Operation i waits for none behind it. -/
def laterNone (ops : Array Oper) (i : Nat) : Bool := ((ops[i]?).map fun o => o.after.all fun e => !Region.binds .any e || decide (e.on < i)).getD true

theorem ready_waits {ops : Array Oper} {listed : Array Bool} {i j : Nat} (h : i ∈ Region.ready .any ops listed) (hw : waitsFor ops i j = true) : listed.getD j false = true := by
  unfold Region.ready at h
  rw [List.mem_filter] at h
  obtain ⟨_, h⟩ := h
  unfold waitsFor at hw
  cases ho : ops[i]? with
  | none => rw [ho] at hw; simp at hw
  | some o =>
    rw [ho] at h hw
    simp only [Option.map_some, Option.getD_some, Bool.and_eq_true, Array.any_eq_true, Array.all_eq_true] at h hw
    obtain ⟨x, hx, he⟩ := hw
    have h2 := h.2 x hx
    simp only [beq_iff_eq, Bool.or_eq_true, Bool.not_eq_true'] at he h2
    rw [← he.1]
    rcases h2 with h2 | h2
    · rw [he.2] at h2; cases h2
    · exact h2
theorem ready_un {ops : Array Oper} {listed : Array Bool} {i : Nat} (h : i ∈ Region.ready .any ops listed) : i < ops.size ∧ listed.getD i true = false := by
  unfold Region.ready at h
  rw [List.mem_filter] at h
  simp only [List.mem_range, Bool.and_eq_true, Bool.not_eq_true'] at h
  exact ⟨h.1, h.2.1⟩
/-- The first that is not listed is ready. -/
theorem ready_first {ops : Array Oper} {listed : Array Bool} {i : Nat} (hi : i < ops.size) (hl : listed.getD i true = false) (hp : ∀ j, j < i → listed.getD j false = true) (ht : laterNone ops i = true) : i ∈ Region.ready .any ops listed := by
  unfold Region.ready
  rw [List.mem_filter]
  refine ⟨List.mem_range.2 hi, ?_⟩
  unfold laterNone at ht
  have ho : ops[i]? = some ops[i] := Array.getElem?_eq_getElem hi
  rw [ho] at ht ⊢
  simp only [Option.map_some, Option.getD_some, Array.all_eq_true, decide_eq_true_eq, Bool.and_eq_true, Bool.not_eq_true', Bool.or_eq_true] at ht ⊢
  exact ⟨hl, fun x hx => (ht x hx).imp id (hp _)⟩
theorem ready_done {ops : Array Oper} {listed : Array Bool} (h : ∀ i, i < ops.size → listed.getD i true = true) : Region.ready .any ops listed = [] := by
  unfold Region.ready
  rw [List.filter_eq_nil_iff]
  intro i hi
  rw [List.mem_range] at hi
  rw [h i hi]
  simp
theorem getD_set (L : Array Bool) (i j : Nat) (b : Bool) : (L.setIfInBounds i true).getD j b = if i = j ∧ j < L.size then true else L.getD j b := by
  simp only [Array.getD_eq_getD_getElem?, Array.getElem?_setIfInBounds]
  by_cases h : i = j
  · subst h
    by_cases h2 : i < L.size
    · simp [h2]
    · simp [h2]
  · simp [h]
theorem count_set (L : Array Bool) (i : Nat) (h : L.getD i true = false) : (L.setIfInBounds i true).toList.count false + 1 = L.toList.count false := by
  have hi : i < L.size := by
    rcases Nat.lt_or_ge i L.size with h' | h'
    · exact h'
    · rw [Array.getD_eq_getD_getElem?, Array.getElem?_eq_none h'] at h; cases h
  have he : L.toList[i]'(by simpa using hi) = false := by
    rw [Array.getD_eq_getD_getElem?, Array.getElem?_eq_getElem hi] at h
    simpa using h
  rw [Array.toList_setIfInBounds, List.count_set (by simpa using hi), he]
  have : 0 < L.toList.count false := List.count_pos_iff.2 (he ▸ List.getElem_mem _)
  show L.toList.count false - 1 + 0 + 1 = L.toList.count false
  omega
theorem least {p : Nat → Prop} : ∀ n, p n → ∃ m, p m ∧ ∀ j, j < m → ¬ p j := by
  intro n
  induction n using Nat.strongRecOn with
  | ind n ih =>
    intro hn
    by_cases h : ∃ j, j < n ∧ p j
    · obtain ⟨j, hj, hp⟩ := h
      exact ih j hj hp
    · exact ⟨n, hn, fun j hj hp => h ⟨j, hj, hp⟩⟩

theorem anyIn_quiet {F : Fence} {n : Nat} {P : Program} {ops : Array Oper} {Q : Exit → Act → World → Prop} (k d0 : Nat) (vals : List Value) (uses : Nat → List Nat) (a0 : Act) (w : World) (hk : ops.size = k + 1) (hN : d0 + k ≤ a0.tmps.size)
    (havail : ∀ i, i < k → ∀ j ∈ uses i, waitsFor ops i j = true) (htopo : ∀ i, i ≤ k → laterNone ops i = true) (hlast : ∀ j, j < k → waitsFor ops k j = true)
    (hstep : ∀ i, i < k → ∀ a : Act, (∀ j ∈ uses i, a.eval (.tmp (d0 + j)) = vals.getD j undef) → (∀ s, s < d0 ∨ d0 + k ≤ s → a.eval (.tmp s) = a0.eval (.tmp s)) → ∀ K : Act → World → Prop, K (a.put (some (d0 + i)) (vals.getD i undef)) w → wpOpIn F n P ops Q i K a w)
    (hstore : ∀ a : Act, (∀ j, j < k → a.eval (.tmp (d0 + j)) = vals.getD j undef) → (∀ s, s < d0 ∨ d0 + k ≤ s → a.eval (.tmp s) = a0.eval (.tmp s)) → wpOpIn F n P ops Q k (fun a w => Q .normal a w) a w) :
    ∀ (fuel : Nat) (listed : Array Bool) (a : Act), listed.size = k + 1 → listed.getD k true = false → listed.toList.count false ≤ fuel → a.tmps.size = a0.tmps.size → (∀ j, j < k → listed.getD j false = true → a.eval (.tmp (d0 + j)) = vals.getD j undef) →
      (∀ s, s < d0 ∨ d0 + k ≤ s → a.eval (.tmp s) = a0.eval (.tmp s)) → wpAnyIn F n P .any ops Q fuel listed a w := by
  intro fuel
  induction fuel with
  | zero =>
    intro listed a hls hl hc _ _ _
    have := count_set listed k hl
    omega
  | succ fuel ih =>
    intro listed a hls hl hc hsz hv ho
    have hne : ∃ i, i ∈ Region.ready .any ops listed := by
      obtain ⟨i, ⟨hi, hf⟩, hmin⟩ := least (p := fun i => i ≤ k ∧ listed.getD i true = false) k ⟨Nat.le_refl _, hl⟩
      refine ⟨i, ready_first (by omega) hf (fun j hj => ?_) (htopo i hi)⟩
      have hjs : j < listed.size := by omega
      cases hb : listed.getD j false with
      | true => rfl
      | false =>
        have : listed.getD j true = false := by
          rw [Array.getD_eq_getD_getElem?, Array.getElem?_eq_getElem hjs] at hb ⊢
          simpa using hb
        exact absurd (show j ≤ k ∧ listed.getD j true = false from ⟨by omega, this⟩) (hmin j hj)
    refine ⟨fun h => (by obtain ⟨i, hi⟩ := hne; rw [h] at hi; cases hi), fun i hi => ?_⟩
    obtain ⟨his, hiu⟩ := ready_un hi
    by_cases hik : i = k
    · subst hik
      refine wpOpIn_mono (fun a' w' hq => ?_) (hstore a (fun j hj => hv j hj (ready_waits hi (hlast j hj))) ho)
      refine wpAnyIn_done (ready_done fun j hj => ?_) hq fuel
      rw [getD_set]
      by_cases hji : i = j
      · rw [if_pos ⟨hji, by omega⟩]
      · rw [if_neg (fun h => hji h.1)]
        have := ready_waits hi (hlast j (by omega))
        rw [Array.getD_eq_getD_getElem?, Array.getElem?_eq_getElem (by omega)] at this ⊢
        simpa using this
    · have hilt : i < k := by omega
      refine hstep i hilt a (fun j hj => ?_) ho _ ?_
      · have hw := ready_waits hi (havail i hilt j hj)
        by_cases hjk : j < k
        · exact hv j hjk hw
        · exfalso
          by_cases hj2 : j = k
          · subst hj2
            rw [Array.getD_eq_getD_getElem?, Array.getElem?_eq_getElem (by omega)] at hl hw
            simp at hl hw
            rw [hl] at hw
            cases hw
          · rw [Array.getD_eq_getD_getElem?, Array.getElem?_eq_none (by omega)] at hw
            cases hw
      · refine ih _ _ (by rw [Array.size_setIfInBounds]; exact hls) ?_ ?_ ?_ ?_ ?_
        · rw [getD_set, if_neg (fun h => hik h.1)]
          exact hl
        · have := count_set listed i hiu
          omega
        · simp [Act.put, hsz]
        · intro j hj hjl
          by_cases hji : i = j
          · subst hji
            exact Act.eval_put_same a _ _ (by omega)
          · rw [Act.eval_put_ne a _ _ _ (by omega)]
            rw [getD_set, if_neg (fun h => hji h.1)] at hjl
            exact hv j hj hjl
        · intro s hs
          rw [Act.eval_put_ne a _ _ _ (by omega)]
          exact ho s hs

/-- The same, with what is asked of the operations' order as tests. -/
theorem region_quiet {F : Fence} {n : Nat} {P : Program} {ops : Array Oper} {Q : Exit → Act → World → Prop} {id : Nat} (k d0 : Nat) (vals : List Value) (uses : List (List Nat)) (a0 : Act) (w : World) (hm : P.follows .mixedOrders = true) (hk : ops.size = k + 1) (hN : d0 + k ≤ a0.tmps.size)
    (havail : ((List.range k).all fun i => (uses.getD i []).all fun j => waitsFor ops i j) = true) (htopo : ((List.range (k + 1)).all fun i => laterNone ops i) = true) (hlast : ((List.range k).all fun j => waitsFor ops k j) = true)
    (hstep : ∀ i, i < k → ∀ a : Act, (∀ j ∈ uses.getD i [], a.eval (.tmp (d0 + j)) = vals.getD j undef) → (∀ s, s < d0 ∨ d0 + k ≤ s → a.eval (.tmp s) = a0.eval (.tmp s)) → ∀ K : Act → World → Prop, K (a.put (some (d0 + i)) (vals.getD i undef)) w.drew → wpOpIn F n P ops Q i K a w.drew)
    (hstore : ∀ a : Act, (∀ j, j < k → a.eval (.tmp (d0 + j)) = vals.getD j undef) → (∀ s, s < d0 ∨ d0 + k ≤ s → a.eval (.tmp s) = a0.eval (.tmp s)) → wpOpIn F n P ops Q k (fun a w => Q .normal a w) a w.drew) :
    (Code.region id ops true).wpIn F n P Q a0 w := by
  refine wpIn_region_any hm ?_
  show wpAnyIn F n P .any ops Q ops.size (Array.replicate ops.size false) a0 w.drew
  rw [hk]
  have hr : ∀ (j : Nat) (b : Bool), j < k + 1 → (Array.replicate (k + 1) false).getD j b = false := fun j b hj => by simp [Array.getD_eq_getD_getElem?, hj]
  refine anyIn_quiet k d0 vals (fun i => uses.getD i []) a0 w.drew hk hN (fun i hi j hj => ?_) (fun i hi => ?_) (fun j hj => ?_) hstep hstore (k + 1) _ a0 (by simp) (hr k true (by omega)) (by simp) rfl (fun j hj h => ?_) (fun s _ => rfl)
  · have := List.all_eq_true.1 havail i (List.mem_range.2 hi)
    exact List.all_eq_true.1 this j hj
  · exact List.all_eq_true.1 htopo i (List.mem_range.2 (by omega))
  · exact List.all_eq_true.1 hlast j (List.mem_range.2 hj)
  · rw [hr j false (by omega)] at h
    cases h

theorem opIn_value {F : Fence} {n : Nat} {P : Program} {ops : Array Oper} {Q : Exit → Act → World → Prop} {i : Nat} {o : Oper} {a : Act} {w w' : World} {v : Value} {K : Act → World → Prop} (hi : ops[i]? = some o) (hg : o.guard = none) (hd : ∀ c, o.op ≠ .defer c)
    (hab : o.about P w a.eval = none) (hrun : (execOp a.eval o).run P w = .ok (.value v) w') (hK : K (a.put o.dst v) w') : wpOpIn F n P ops Q i K a w := by
  unfold wpOpIn
  rw [hi]
  have hw : Region.wanted o (yielded ops a.tmps) = true := by simp [Region.wanted, hg]
  simp only [hw, if_true, Oper.wpIn]
  refine ⟨fun f hf => ?_, ?_⟩
  · rw [hab] at hf; cases hf
  · rw [Oper.semAt_plain F _ _ hd, hrun]
    exact hK
theorem opIn_skip {F : Fence} {n : Nat} {P : Program} {ops : Array Oper} {Q : Exit → Act → World → Prop} {i : Nat} {o : Oper} {a : Act} {w w' : World} {K : Act → World → Prop} (hi : ops[i]? = some o) (hg : o.guard = none) (hd : ∀ c, o.op ≠ .defer c)
    (hab : o.about P w a.eval = none) (hrun : (execOp a.eval o).run P w = .ok .skip w') (hK : K (a.put o.dst undef) w') : wpOpIn F n P ops Q i K a w := by
  unfold wpOpIn
  rw [hi]
  have hw : Region.wanted o (yielded ops a.tmps) = true := by simp [Region.wanted, hg]
  simp only [hw, if_true, Oper.wpIn]
  refine ⟨fun f hf => ?_, ?_⟩
  · rw [hab] at hf; cases hf
  · rw [Oper.semAt_plain F _ _ hd, hrun]
    exact hK
end Go.Proofs.YtmdfjhnibhmdkafDoor
