import Derived.Test.YtplkmkbambbemadGreatDoorB03
import Derived.Test.YtplkmkbambbemadGreatDoorB01
import Derived.OrdersIn
import Derived.OwnWalkIn
import Derived.Great.Frames
import Derived.Laws.AppendOwnNone
import Derived.Maps.AppendAt
import Derived.Test.YtplkmkbambbemadGreatDoorB02
import Derived.Shelf.Abstract
import Derived.Deep.CutRange
namespace Go.Proofs.YtplkmkbambbemadGreatDoor
open Go.ChangeShapes Go.WideShapes Go.ChangeAt Go.RowKit
theorem Tab.facts {w : World} {B g cap i d : Nat} {vs : List Value} (h : Tab w B (.slice (some ⟨g, 0, none⟩) (d + 1) cap) i (d + 1) vs) : ∃ u, u = vs.getD d undef ∧ w.cell? ⟨g, d, none⟩ = some u ∧ OwnI w B u (rowM i d) := by
  refine ⟨_, rfl, ?_, h.row d (by omega)⟩
  have h0 := h.tab
  unfold OwnS at h0
  rw [h.len] at h0
  rw [h0.cellAt d (by omega)]
  unfold List.getD
  rw [List.getElem?_eq_getElem (by rw [h.len]; omega)]
  rfl
theorem Tab.step {w w2 : World} {B g cap i d : Nat} {vs : List Value} {u v2 : Value} {o : Obj} (h : Tab w B (.slice (some ⟨g, 0, none⟩) (d + 1) cap) i (d + 1) vs) (hd : d = i / 8) (hu : u = vs.getD d undef)
    (hg : (w.alloc o).grownBy w2 u.ownBlock) (hn : OwnI w2 B v2 (rowM i d ++ [(i : Int)])) (hloc : v2.ownBlock = u.ownBlock ∨ v2.ownBlock = some (w.alloc o).heap.size) :
    w2.cell? ⟨g, d, none⟩ = some u ∧ w2.frozen? ⟨g, d, none⟩ = false ∧ Tab (w2.setCell ⟨g, d, none⟩ v2) B (.slice (some ⟨g, 0, none⟩) (d + 1) cap) (i + 1) (d + 1) (vs.set d v2) ∧ w2.grownBy (w2.setCell ⟨g, d, none⟩ v2) (some g) := by
  subst hu
  subst hd
  have hga := (World.grownBy_alloc w o (vs.getD (i / 8) undef).ownBlock).trans hg
  have hT2 := own_grow h.tab hga (fun k hk => (h.blocks (r := i / 8) (by omega)).symm k hk)
  rw [h.len] at hT2
  obtain ⟨hP, hP2⟩ := Tab.push h rfl hga hn (hloc.imp id (fun e => ⟨_, e, by simp⟩))
  refine ⟨?_, hT2.frozenAt _, hP, hP2⟩
  rw [hT2.cellAt (i / 8) (by omega)]
  unfold List.getD
  rw [List.getElem?_eq_getElem (by rw [h.len]; omega)]
  rfl
theorem intsM_append (a b : List Nat) : intsM (a ++ b) = intsM a ++ intsM b := by simp [intsM]
theorem intsM_length (a : List Nat) : (intsM a).length = a.length := by simp [intsM]
theorem intsM_at (l : List Nat) (j : Nat) : (intsM l).getD j 0 = ((l.getD j 0 : Nat) : Int) := by
  unfold intsM List.getD
  rw [List.getElem?_map]
  cases l[j]? <;> rfl
/-- A row of the table, as it is read. -/
theorem Tab.read {w : World} {B n R : Nat} {v : Value} {vs : List Value} (h : Tab w B v n R vs) (hR : R = (n + 7) / 8) {r : Nat} (hr : r < R) :
    ∃ gT cT gr cr, v = .slice (some ⟨gT, 0, none⟩) R cT ∧ w.cell? ⟨gT, r, none⟩ = some (.slice (some ⟨gr, 0, none⟩) (min 8 (n - 8 * r)) cr) ∧ gT < w.heap.size ∧ gr < w.heap.size ∧ (∀ j, j < min 8 (n - 8 * r) → w.cell? ⟨gr, j, none⟩ = some (.int .i64 ((8 * r + j : Nat) : Int))) := by
  have h0 := h.tab
  unfold OwnS at h0
  rw [h.len] at h0
  have hrow := h.row r hr
  have hpos : 0 < min 8 (n - 8 * r) := by omega
  rcases h0.2 with ⟨_, e⟩ | ⟨gT, cT, cur, rfl, _, hg, _⟩
  · omega
  · rcases hrow.2 with ⟨_, e⟩ | ⟨gr, cr, cur', e, _, hg', _⟩
    · rw [rowM_length] at e; omega
    · rw [rowM_length] at e
      refine ⟨gT, cT, gr, cr, rfl, ?_, (h0.lt gT rfl).2, (hrow.lt gr (by rw [e]; rfl)).2, fun j hj => ?_⟩
      · rw [h0.cellAt r (by omega), ← e]
        unfold List.getD
        rw [List.getElem?_eq_getElem (by rw [h.len]; omega)]
        rfl
      · rw [e] at hrow
        obtain ⟨b, o, e2, hc⟩ := (OwnI.rd hrow).at (i := j) (by rw [rowM_length]; exact hj)
        simp only [Option.some.injEq, Addr.mk.injEq, and_true] at e2
        obtain ⟨rfl, rfl⟩ := e2
        have := hc j (by rw [rowM_length]; exact hj)
        rw [Nat.zero_add, rowM_at hj] at this
        exact this
end Go.Proofs.YtplkmkbambbemadGreatDoor
namespace Go.Proofs.YtplkmkbambbemadGreatDoor
open Go.ChangeShapes Go.WideShapes Go.ChangeAt Go.RowKit
def verOk (v : Int) : Bool := decide (0 ≤ v ∧ v ≤ 3)
/-- Which coded bit the i-th picked one is. -/
def pickM (n v i : Nat) : Nat := (ordM n).getD ((n * v / 4 + i) % n) 0
def pickTo (n v c : Nat) : List Nat := (List.range c).map (pickM n v)
theorem pickM_lt {n v i : Nat} (h : 1 ≤ n) : pickM n v i < n := by
  unfold pickM
  have hm : (n * v / 4 + i) % n < (ordM n).length := by rw [ordM_length]; exact Nat.mod_lt _ (by omega)
  have e : (ordM n).getD ((n * v / 4 + i) % n) 0 = (ordM n)[(n * v / 4 + i) % n] := by simp [List.getD, hm]
  rw [e]
  exact mem_ordM.1 (List.getElem_mem hm)
end Go.Proofs.YtplkmkbambbemadGreatDoor
namespace Go.Proofs.YtplkmkbambbemadGreatDoor
/-- The first k of xs added at the places ps. -/
def gathTo (s : List Int) (ps : List Nat) (xs : List Int) : Nat → List Int
  | 0 => s
  | k + 1 => (gathTo s ps xs k).set (ps.getD k 0) ((gathTo s ps xs k).getD (ps.getD k 0) 0 + xs.getD k 0)
/-- What comes to the place j by the first k. -/
def comesTo (ps : List Nat) (xs : List Int) (j : Nat) : Nat → Int
  | 0 => 0
  | k + 1 => comesTo ps xs j k + if ps.getD k 0 = j then xs.getD k 0 else 0
theorem gathTo_length (s : List Int) (ps : List Nat) (xs : List Int) (k : Nat) : (gathTo s ps xs k).length = s.length := by
  induction k with
  | zero => rfl
  | succ k ih => rw [gathTo, List.length_set, ih]
theorem gathTo_at (s : List Int) (ps : List Nat) (xs : List Int) (k : Nat) {j : Nat} (hj : j < s.length) : (gathTo s ps xs k).getD j 0 = s.getD j 0 + comesTo ps xs j k := by
  induction k with
  | zero => simp [gathTo, comesTo]
  | succ k ih =>
    rw [gathTo, comesTo, ← Int.add_assoc, ← ih]
    have hl : j < (gathTo s ps xs k).length := by rw [gathTo_length]; exact hj
    by_cases e : ps.getD k 0 = j
    · rw [if_pos e, e]
      simp [List.getD, hl]
    · rw [if_neg e, Int.add_zero]
      simp only [List.getD] at e ⊢
      rw [List.getElem?_set_ne e]
end Go.Proofs.YtplkmkbambbemadGreatDoor
namespace Go.Proofs.YtplkmkbambbemadGreatDoor
open Go.ChangeShapes Go.WideShapes Go.ChangeAt Go.RowKit
/-- Operation i waits for operation j. -/
def waitsFor (ops : Array Oper) (i j : Nat) : Bool := ((ops[i]?).map fun o => o.after.any fun e => e.on == j && Region.binds .any e).getD false
/-- Operation i waits for none behind it. -/
def laterNone (ops : Array Oper) (i : Nat) : Bool := ((ops[i]?).map fun o => o.after.all fun e => !Region.binds .any e || decide (e.on < i)).getD true
theorem ready_waits {ops : Array Oper} {listed : Array Bool} {i j : Nat} (h : i ∈ Region.ready .any ops listed) (hw : waitsFor ops i j = true) : listed.getD j false = true := by
  unfold Region.ready at h
  rw [List.mem_filter] at h
  obtain ⟨_, h⟩ := h
  unfold waitsFor at hw
  cases ho : ops[i]? with
  | none => rw [ho] at hw; simp at hw
  | some o =>
    rw [ho] at h hw
    simp only [Option.map_some, Option.getD_some, Bool.and_eq_true, Array.any_eq_true, Array.all_eq_true] at h hw
    obtain ⟨x, hx, he⟩ := hw
    have h2 := h.2 x hx
    simp only [beq_iff_eq, Bool.or_eq_true, Bool.not_eq_true'] at he h2
    rw [← he.1]
    rcases h2 with h2 | h2
    · rw [he.2] at h2; cases h2
    · exact h2
theorem ready_un {ops : Array Oper} {listed : Array Bool} {i : Nat} (h : i ∈ Region.ready .any ops listed) : i < ops.size ∧ listed.getD i true = false := by
  unfold Region.ready at h
  rw [List.mem_filter] at h
  simp only [List.mem_range, Bool.and_eq_true, Bool.not_eq_true'] at h
  exact ⟨h.1, h.2.1⟩
/-- The first that is not listed is ready. -/
theorem ready_first {ops : Array Oper} {listed : Array Bool} {i : Nat} (hi : i < ops.size) (hl : listed.getD i true = false) (hp : ∀ j, j < i → listed.getD j false = true) (ht : laterNone ops i = true) : i ∈ Region.ready .any ops listed := by
  unfold Region.ready
  rw [List.mem_filter]
  refine ⟨List.mem_range.2 hi, ?_⟩
  unfold laterNone at ht
  have ho : ops[i]? = some ops[i] := Array.getElem?_eq_getElem hi
  rw [ho] at ht ⊢
  simp only [Option.map_some, Option.getD_some, Array.all_eq_true, decide_eq_true_eq, Bool.and_eq_true, Bool.not_eq_true', Bool.or_eq_true] at ht ⊢
  exact ⟨hl, fun x hx => (ht x hx).imp id (hp _)⟩
theorem ready_done {ops : Array Oper} {listed : Array Bool} (h : ∀ i, i < ops.size → listed.getD i true = true) : Region.ready .any ops listed = [] := by
  unfold Region.ready
  rw [List.filter_eq_nil_iff]
  intro i hi
  rw [List.mem_range] at hi
  rw [h i hi]
  simp
theorem getD_set (L : Array Bool) (i j : Nat) (b : Bool) : (L.setIfInBounds i true).getD j b = if i = j ∧ j < L.size then true else L.getD j b := by
  simp only [Array.getD_eq_getD_getElem?, Array.getElem?_setIfInBounds]
  by_cases h : i = j
  · subst h
    by_cases h2 : i < L.size
    · simp [h2]
    · simp [h2]
  · simp [h]
theorem count_set (L : Array Bool) (i : Nat) (h : L.getD i true = false) : (L.setIfInBounds i true).toList.count false + 1 = L.toList.count false := by
  have hi : i < L.size := by
    rcases Nat.lt_or_ge i L.size with h' | h'
    · exact h'
    · rw [Array.getD_eq_getD_getElem?, Array.getElem?_eq_none h'] at h; cases h
  have he : L.toList[i]'(by simpa using hi) = false := by
    rw [Array.getD_eq_getD_getElem?, Array.getElem?_eq_getElem hi] at h
    simpa using h
  rw [Array.toList_setIfInBounds, List.count_set (by simpa using hi), he]
  have : 0 < L.toList.count false := List.count_pos_iff.2 (he ▸ List.getElem_mem _)
  show L.toList.count false - 1 + 0 + 1 = L.toList.count false
  omega
theorem least {p : Nat → Prop} : ∀ n, p n → ∃ m, p m ∧ ∀ j, j < m → ¬ p j := by
  intro n
  induction n using Nat.strongRecOn with
  | ind n ih =>
    intro hn
    by_cases h : ∃ j, j < n ∧ p j
    · obtain ⟨j, hj, hp⟩ := h
      exact ih j hj hp
    · exact ⟨n, hn, fun j hj hp => h ⟨j, hj, hp⟩⟩
theorem anyIn_quiet {F : Fence} {n : Nat} {P : Program} {ops : Array Oper} {Q : Exit → Act → World → Prop} (k d0 : Nat) (vals : List Value) (uses : Nat → List Nat) (a0 : Act) (w : World) (hk : ops.size = k + 1) (hN : d0 + k ≤ a0.tmps.size)
    (havail : ∀ i, i < k → ∀ j ∈ uses i, waitsFor ops i j = true) (htopo : ∀ i, i ≤ k → laterNone ops i = true) (hlast : ∀ j, j < k → waitsFor ops k j = true)
    (hstep : ∀ i, i < k → ∀ a : Act, (∀ j ∈ uses i, a.eval (.tmp (d0 + j)) = vals.getD j undef) → (∀ s, s < d0 ∨ d0 + k ≤ s → a.eval (.tmp s) = a0.eval (.tmp s)) → ∀ K : Act → World → Prop, K (a.put (some (d0 + i)) (vals.getD i undef)) w → wpOpIn F n P ops Q i K a w)
    (hstore : ∀ a : Act, (∀ j, j < k → a.eval (.tmp (d0 + j)) = vals.getD j undef) → (∀ s, s < d0 ∨ d0 + k ≤ s → a.eval (.tmp s) = a0.eval (.tmp s)) → wpOpIn F n P ops Q k (fun a w => Q .normal a w) a w) :
    ∀ (fuel : Nat) (listed : Array Bool) (a : Act), listed.size = k + 1 → listed.getD k true = false → listed.toList.count false ≤ fuel → a.tmps.size = a0.tmps.size → (∀ j, j < k → listed.getD j false = true → a.eval (.tmp (d0 + j)) = vals.getD j undef) →
      (∀ s, s < d0 ∨ d0 + k ≤ s → a.eval (.tmp s) = a0.eval (.tmp s)) → wpAnyIn F n P .any ops Q fuel listed a w := by
  intro fuel
  induction fuel with
  | zero =>
    intro listed a hls hl hc _ _ _
    have := count_set listed k hl
    omega
  | succ fuel ih =>
    intro listed a hls hl hc hsz hv ho
    have hne : ∃ i, i ∈ Region.ready .any ops listed := by
      obtain ⟨i, ⟨hi, hf⟩, hmin⟩ := least (p := fun i => i ≤ k ∧ listed.getD i true = false) k ⟨Nat.le_refl _, hl⟩
      refine ⟨i, ready_first (by omega) hf (fun j hj => ?_) (htopo i hi)⟩
      have hjs : j < listed.size := by omega
      cases hb : listed.getD j false with
      | true => rfl
      | false =>
        have : listed.getD j true = false := by
          rw [Array.getD_eq_getD_getElem?, Array.getElem?_eq_getElem hjs] at hb ⊢
          simpa using hb
        exact absurd (show j ≤ k ∧ listed.getD j true = false from ⟨by omega, this⟩) (hmin j hj)
    refine ⟨fun h => (by obtain ⟨i, hi⟩ := hne; rw [h] at hi; cases hi), fun i hi => ?_⟩
    obtain ⟨his, hiu⟩ := ready_un hi
    by_cases hik : i = k
    · subst hik
      refine wpOpIn_mono (fun a' w' hq => ?_) (hstore a (fun j hj => hv j hj (ready_waits hi (hlast j hj))) ho)
      refine wpAnyIn_done (ready_done fun j hj => ?_) hq fuel
      rw [getD_set]
      by_cases hji : i = j
      · rw [if_pos ⟨hji, by omega⟩]
      · rw [if_neg (fun h => hji h.1)]
        have := ready_waits hi (hlast j (by omega))
        rw [Array.getD_eq_getD_getElem?, Array.getElem?_eq_getElem (by omega)] at this ⊢
        simpa using this
    · have hilt : i < k := by omega
      refine hstep i hilt a (fun j hj => ?_) ho _ ?_
      · have hw := ready_waits hi (havail i hilt j hj)
        by_cases hjk : j < k
        · exact hv j hjk hw
        · exfalso
          by_cases hj2 : j = k
          · subst hj2
            rw [Array.getD_eq_getD_getElem?, Array.getElem?_eq_getElem (by omega)] at hl hw
            simp at hl hw
            rw [hl] at hw
            cases hw
          · rw [Array.getD_eq_getD_getElem?, Array.getElem?_eq_none (by omega)] at hw
            cases hw
      · refine ih _ _ (by rw [Array.size_setIfInBounds]; exact hls) ?_ ?_ ?_ ?_ ?_
        · rw [getD_set, if_neg (fun h => hik h.1)]
          exact hl
        · have := count_set listed i hiu
          omega
        · simp [Act.put, hsz]
        · intro j hj hjl
          by_cases hji : i = j
          · subst hji
            exact Act.eval_put_same a _ _ (by omega)
          · rw [Act.eval_put_ne a _ _ _ (by omega)]
            rw [getD_set, if_neg (fun h => hji h.1)] at hjl
            exact hv j hj hjl
        · intro s hs
          rw [Act.eval_put_ne a _ _ _ (by omega)]
          exact ho s hs
/-- The same, with what is asked of the operations' order as tests. -/
theorem region_quiet {F : Fence} {n : Nat} {P : Program} {ops : Array Oper} {Q : Exit → Act → World → Prop} {id : Nat} (k d0 : Nat) (vals : List Value) (uses : List (List Nat)) (a0 : Act) (w : World) (hm : P.follows .mixedOrders = true) (hk : ops.size = k + 1) (hN : d0 + k ≤ a0.tmps.size)
    (havail : ((List.range k).all fun i => (uses.getD i []).all fun j => waitsFor ops i j) = true) (htopo : ((List.range (k + 1)).all fun i => laterNone ops i) = true) (hlast : ((List.range k).all fun j => waitsFor ops k j) = true)
    (hstep : ∀ i, i < k → ∀ a : Act, (∀ j ∈ uses.getD i [], a.eval (.tmp (d0 + j)) = vals.getD j undef) → (∀ s, s < d0 ∨ d0 + k ≤ s → a.eval (.tmp s) = a0.eval (.tmp s)) → ∀ K : Act → World → Prop, K (a.put (some (d0 + i)) (vals.getD i undef)) w.drew → wpOpIn F n P ops Q i K a w.drew)
    (hstore : ∀ a : Act, (∀ j, j < k → a.eval (.tmp (d0 + j)) = vals.getD j undef) → (∀ s, s < d0 ∨ d0 + k ≤ s → a.eval (.tmp s) = a0.eval (.tmp s)) → wpOpIn F n P ops Q k (fun a w => Q .normal a w) a w.drew) :
    (Code.region id ops true).wpIn F n P Q a0 w := by
  refine wpIn_region_any hm ?_
  show wpAnyIn F n P .any ops Q ops.size (Array.replicate ops.size false) a0 w.drew
  rw [hk]
  have hr : ∀ (j : Nat) (b : Bool), j < k + 1 → (Array.replicate (k + 1) false).getD j b = false := fun j b hj => by simp [Array.getD_eq_getD_getElem?, hj]
  refine anyIn_quiet k d0 vals (fun i => uses.getD i []) a0 w.drew hk hN (fun i hi j hj => ?_) (fun i hi => ?_) (fun j hj => ?_) hstep hstore (k + 1) _ a0 (by simp) (hr k true (by omega)) (by simp) rfl (fun j hj h => ?_) (fun s _ => rfl)
  · have := List.all_eq_true.1 havail i (List.mem_range.2 hi)
    exact List.all_eq_true.1 this j hj
  · exact List.all_eq_true.1 htopo i (List.mem_range.2 (by omega))
  · exact List.all_eq_true.1 hlast j (List.mem_range.2 hj)
  · rw [hr j false (by omega)] at h
    cases h
theorem opIn_value {F : Fence} {n : Nat} {P : Program} {ops : Array Oper} {Q : Exit → Act → World → Prop} {i : Nat} {o : Oper} {a : Act} {w w' : World} {v : Value} {K : Act → World → Prop} (hi : ops[i]? = some o) (hg : o.guard = none) (hd : ∀ c, o.op ≠ .defer c)
    (hab : o.about P w a.eval = none) (hrun : (execOp a.eval o).run P w = .ok (.value v) w') (hK : K (a.put o.dst v) w') : wpOpIn F n P ops Q i K a w := by
  unfold wpOpIn
  rw [hi]
  have hw : Region.wanted o (yielded ops a.tmps) = true := by simp [Region.wanted, hg]
  simp only [hw, if_true, Oper.wpIn]
  refine ⟨fun f hf => ?_, ?_⟩
  · rw [hab] at hf; cases hf
  · rw [Oper.semAt_plain F _ _ hd, hrun]
    exact hK
theorem opIn_skip {F : Fence} {n : Nat} {P : Program} {ops : Array Oper} {Q : Exit → Act → World → Prop} {i : Nat} {o : Oper} {a : Act} {w w' : World} {K : Act → World → Prop} (hi : ops[i]? = some o) (hg : o.guard = none) (hd : ∀ c, o.op ≠ .defer c)
    (hab : o.about P w a.eval = none) (hrun : (execOp a.eval o).run P w = .ok .skip w') (hK : K (a.put o.dst undef) w') : wpOpIn F n P ops Q i K a w := by
  unfold wpOpIn
  rw [hi]
  have hw : Region.wanted o (yielded ops a.tmps) = true := by simp [Region.wanted, hg]
  simp only [hw, if_true, Oper.wpIn]
  refine ⟨fun f hf => ?_, ?_⟩
  · rw [hab] at hf; cases hf
  · rw [Oper.semAt_plain F _ _ hd, hrun]
    exact hK
end Go.Proofs.YtplkmkbambbemadGreatDoor
namespace Go.Proofs.YtplkmkbambbemadGreatDoor
open Go.ChangeShapes Go.WideShapes Go.ChangeAt Go.RowKit
theorem any_inv {P : Program} {ops : Array Oper} {Q : Exit → Act → World → Prop} (k : Nat) (Inv : (Nat → Bool) → Act → World → Prop) (hk : ops.size = k) (htopo : ∀ i, i < k → laterNone ops i = true)
    (hstep : ∀ (L : Nat → Bool) (a : Act) (w : World) (i : Nat), Inv L a w → i < k → L i = false → (∀ j, waitsFor ops i j = true → L j = true) → wpOp P ops Q i (fun a' w' => Inv (fun j => if j = i then true else L j) a' w') a w)
    (hdone : ∀ (L : Nat → Bool) (a : Act) (w : World), (∀ j, j < k → L j = true) → Inv L a w → Q .normal a w) :
    ∀ (fuel : Nat) (listed : Array Bool) (a : Act) (w : World), listed.size = k → listed.toList.count false ≤ fuel → Inv (fun j => listed.getD j false) a w → wpAny P .any ops Q fuel listed a w := by
  have hdn : ∀ (listed : Array Bool) (a : Act) (w : World), listed.size = k → Region.ready .any ops listed = [] → Inv (fun j => listed.getD j false) a w → Q .normal a w := by
    intro listed a w hls hr hi
    refine hdone _ a w (fun j hj => ?_) hi
    show listed.getD j false = true
    by_cases hex : ∃ i, i < k ∧ listed.getD i true = false
    · obtain ⟨i0, hi0⟩ := hex
      obtain ⟨i, ⟨hi1, hf⟩, hmin⟩ := least (p := fun i => i < k ∧ listed.getD i true = false) i0 hi0
      have : i ∈ Region.ready .any ops listed := ready_first (by omega) hf (fun j hj => by
        have hjs : j < listed.size := by omega
        cases hb : listed.getD j false with
        | true => rfl
        | false =>
          have h2 : listed.getD j true = false := by
            rw [Array.getD_eq_getD_getElem?, Array.getElem?_eq_getElem hjs] at hb ⊢
            simpa using hb
          exact absurd (show j < k ∧ listed.getD j true = false from ⟨by omega, h2⟩) (hmin j hj)) (htopo i hi1)
      rw [hr] at this
      cases this
    · have hjs : j < listed.size := by omega
      have h2 : listed.getD j true ≠ false := fun h => hex ⟨j, hj, h⟩
      rw [Array.getD_eq_getD_getElem?, Array.getElem?_eq_getElem hjs] at h2 ⊢
      simpa using h2
  intro fuel
  induction fuel with
  | zero =>
    intro listed a w hls hc hi
    have hr : Region.ready .any ops listed = [] := ready_done fun j hj => by
      have hjs : j < listed.size := by omega
      cases hb : listed.getD j true with
      | true => rfl
      | false =>
        have := count_set listed j hb
        omega
    exact ⟨hr, hdn listed a w hls hr hi⟩
  | succ fuel ih =>
    intro listed a w hls hc hi
    refine ⟨fun hr => hdn listed a w hls hr hi, fun i hir => ?_⟩
    obtain ⟨his, hiu⟩ := ready_un hir
    have hil : i < listed.size := by omega
    refine wpOp_mono (fun a' w' h => ?_) (hstep _ a w i hi (by omega) (by
      rw [Array.getD_eq_getD_getElem?, Array.getElem?_eq_getElem hil] at hiu
      show listed.getD i false = false
      rw [Array.getD_eq_getD_getElem?, Array.getElem?_eq_getElem hil]
      simpa using hiu) (fun j hj => ready_waits hir hj))
    refine ih _ a' w' (by rw [Array.size_setIfInBounds]; exact hls) (by have := count_set listed i hiu; omega) ?_
    have e : (fun j => (listed.setIfInBounds i true).getD j false) = fun j => if j = i then true else listed.getD j false := by
      funext j
      rw [getD_set]
      by_cases h1 : j = i
      · subst h1
        rw [if_pos ⟨rfl, hil⟩, if_pos rfl]
      · rw [if_neg (fun h => h1 h.1.symm), if_neg h1]
    rw [e]
    exact h
theorem region_inv {P : Program} {ops : Array Oper} {Q : Exit → Act → World → Prop} {id : Nat} (k : Nat) (Inv : (Nat → Bool) → Act → World → Prop) (a0 : Act) (w : World) (hm : P.follows .mixedOrders = true) (hk : ops.size = k) (htopo : ((List.range k).all fun i => laterNone ops i) = true)
    (h0 : Inv (fun _ => false) a0 w.drew)
    (hstep : ∀ (L : Nat → Bool) (a : Act) (w : World) (i : Nat), Inv L a w → i < k → L i = false → (∀ j, waitsFor ops i j = true → L j = true) → wpOp P ops Q i (fun a' w' => Inv (fun j => if j = i then true else L j) a' w') a w)
    (hdone : ∀ (L : Nat → Bool) (a : Act) (w : World), (∀ j, j < k → L j = true) → Inv L a w → Q .normal a w) : (Code.region id ops true).wp P Q a0 w := by
  refine wp_region_any hm ?_
  show wpAny P .any ops Q ops.size (Array.replicate ops.size false) a0 w.drew
  rw [hk]
  refine any_inv k Inv hk (fun i hi => List.all_eq_true.1 htopo i (List.mem_range.2 hi)) hstep hdone k _ a0 w.drew (by simp) (by simp) ?_
  have e : (fun j => (Array.replicate k false).getD j false) = fun _ : Nat => false := by
    funext j
    rw [Array.getD_eq_getD_getElem?, Array.getElem?_replicate]
    split <;> rfl
  rw [e]
  exact h0
theorem act_known (a : Act) (lst : List Value) (hs : a.tmps.size = lst.length) (hd : a.defers = []) (h : ∀ s : Nat, s < lst.length → a.eval (.tmp s) = lst.getD s undef) : a = { tmps := lst.toArray, defers := [] } := by
  obtain ⟨t, d⟩ := a
  simp only at hs hd
  subst hd
  congr 1
  refine Array.ext (by simpa using hs) fun i i1 i2 => ?_
  have hti : t[i] = t.getD i undef := by simp [Array.getD, i1]
  have := h i (by omega)
  have hev : ({ tmps := t, defers := [] } : Act).eval (.tmp i) = t.getD i undef := rfl
  rw [hti, ← hev, this]
  simp [List.getD, show i < lst.length by omega]
def setAll (l : List Value) : List (Nat × Value) → List Value
  | [] => l
  | q :: t => setAll (l.set q.1 q.2) t
theorem setAll_length (t : List (Nat × Value)) : ∀ l : List Value, (setAll l t).length = l.length := by
  induction t with
  | nil => intro l; rfl
  | cons q t ih => intro l; rw [setAll, ih, List.length_set]
theorem beq_ne {a b : Nat} (h : a ≠ b) : Nat.beq a b = false := by
  cases hb : Nat.beq a b with
  | false => rfl
  | true => exact absurd (Nat.eq_of_beq_eq_true hb) h
/-- What a slot holds behind it all. -/
def lkp (l0 : List Value) : List (Nat × Value) → Nat → Value
  | [], s => l0.getD s undef
  | q :: t, s => match Nat.beq q.1 s with
    | true => q.2
    | false => lkp l0 t s
theorem lkp_set {l0 : List Value} {i : Nat} {v : Value} : ∀ (t : List (Nat × Value)) (s : Nat), i ≠ s → lkp (l0.set i v) t s = lkp l0 t s
  | [], s, h => by simp [lkp, List.getD, h]
  | q :: t, s, h => by
    rw [lkp, lkp, lkp_set t s h]
theorem lkp_none {l0 : List Value} : ∀ (t : List (Nat × Value)) (s : Nat), (∀ q ∈ t, q.1 ≠ s) → lkp l0 t s = l0.getD s undef
  | [], s, _ => rfl
  | q :: t, s, h => by
    have h1 : Nat.beq q.1 s = false := beq_ne (h q (by simp))
    rw [lkp, h1]
    exact lkp_none t s (fun q hq => h q (List.mem_cons_of_mem _ hq))
theorem setAll_lkp (t : List (Nat × Value)) : ∀ (l0 : List Value) (s : Nat), (t.map (·.1)).Nodup → (∀ q ∈ t, q.1 < l0.length) → (setAll l0 t).getD s undef = lkp l0 t s := by
  induction t with
  | nil => intro l0 s _ _; rfl
  | cons q t ih =>
    intro l0 s hn hl
    rw [List.map_cons, List.nodup_cons] at hn
    rw [setAll, ih _ s hn.2 (fun p hp => by rw [List.length_set]; exact hl p (List.mem_cons_of_mem _ hp)), lkp]
    by_cases e : q.1 = s
    · subst e
      have h1 : Nat.beq q.1 q.1 = true := Nat.beq_refl q.1
      rw [h1, lkp_none t _ (fun p hp he => hn.1 (List.mem_map.2 ⟨p, hp, he⟩))]
      simp [List.getD, hl q (by simp)]
    · have h1 : Nat.beq q.1 s = false := beq_ne e
      rw [h1]
      exact lkp_set t s e
theorem lkp_at (l0 : List Value) (t : List (Nat × Value)) (hn : (t.map (·.1)).Nodup) : ∀ i, i < t.length → lkp l0 t (t.getD i (0, undef)).1 = (t.getD i (0, undef)).2 := by
  induction t with
  | nil => intro i hi; simp at hi
  | cons q t ih =>
    intro i hi
    rw [List.map_cons, List.nodup_cons] at hn
    cases i with
    | zero => simp [lkp, List.getD]
    | succ i =>
      have hi' : i < t.length := by simpa using hi
      have e : (q :: t).getD (i + 1) (0, undef) = t.getD i (0, undef) := by simp [List.getD]
      rw [e, lkp]
      have hm : (t.getD i (0, undef)) ∈ t := by
        have e2 : t.getD i (0, undef) = t[i] := by simp [List.getD, hi']
        rw [e2]
        exact List.getElem_mem hi'
      have h1 : Nat.beq q.1 (t.getD i (0, undef)).1 = false := beq_ne (fun h => hn.1 (List.mem_map.2 ⟨_, hm, h.symm⟩))
      rw [h1]
      exact ih hn.2 i hi'
theorem op_value {P : Program} {ops : Array Oper} {Q : Exit → Act → World → Prop} {i : Nat} {o : Oper} {a : Act} {w w' : World} {v : Value} {K : Act → World → Prop} (hi : ops[i]? = some o) (hg : o.guard = none)
    (hrun : (execOp a.eval o).run P w = .ok (.value v) w') (hK : K (a.put o.dst v) w') : wpOp P ops Q i K a w := by
  unfold wpOp
  rw [hi]
  have hw : Region.wanted o (yielded ops a.tmps) = true := by simp [Region.wanted, hg]
  simp only [hw, if_true, Oper.wp]
  left
  rw [hrun]
  exact hK
end Go.Proofs.YtplkmkbambbemadGreatDoor
namespace Go.Proofs.YtplkmkbambbemadGreatDoor
open Go.ChangeShapes Go.WideShapes Go.ChangeAt Go.RowKit
theorem run_moveQ {ρ : Operand → Value} {P : Program} (w : World) {o : Oper} {x : Operand} {v : Value} (ho : o.op = .move x) (h : ρ x = v) : (execOp ρ o).run P w = .ok (.value v) w := by
  unfold execOp
  simp only [ho, h]
  simp [go_sem]
theorem run_loadI {ρ : Operand → Value} (w : World) {o : Oper} {x : Operand} {g j : Nat} {v : Value} (ho : o.op = .load 3 x) (h : ρ x = .pointer (some ⟨g, j, none⟩)) (hc : w.cell? ⟨g, j, none⟩ = some v) : (execOp ρ o).run Tryz.prog w = .ok (.value v) w := by
  unfold execOp
  simp only [ho, h]
  simp [go_sem, hc]
theorem run_loadB {ρ : Operand → Value} (w : World) {o : Oper} {x : Operand} {g j : Nat} {v : Value} (ho : o.op = .load 5 x) (h : ρ x = .pointer (some ⟨g, j, none⟩)) (hc : w.cell? ⟨g, j, none⟩ = some v) : (execOp ρ o).run Tryz.prog w = .ok (.value v) w := by
  unfold execOp
  simp only [ho, h]
  simp [go_sem, hc]
theorem run_loadSI {ρ : Operand → Value} (w : World) {o : Oper} {x : Operand} {g j : Nat} {v : Value} (ho : o.op = .load 23 x) (h : ρ x = .pointer (some ⟨g, j, none⟩)) (hc : w.cell? ⟨g, j, none⟩ = some v) : (execOp ρ o).run Tryz.prog w = .ok (.value v) w := by
  unfold execOp
  simp only [ho, h]
  simp [go_sem, hc]
theorem run_loadSB {ρ : Operand → Value} (w : World) {o : Oper} {x : Operand} {g j : Nat} {v : Value} (ho : o.op = .load 22 x) (h : ρ x = .pointer (some ⟨g, j, none⟩)) (hc : w.cell? ⟨g, j, none⟩ = some v) : (execOp ρ o).run Tryz.prog w = .ok (.value v) w := by
  unfold execOp
  simp only [ho, h]
  simp [go_sem, hc]
theorem run_idxI {ρ : Operand → Value} (w : World) {o : Oper} {x y : Operand} {g s j n c : Nat} (ho : o.op = .indexAddr 23 x y) (h : ρ x = .slice (some ⟨g, s, none⟩) n c) (h' : ρ y = .int .i64 j) (hj : j < n) : (execOp ρ o).run Tryz.prog w = .ok (.value (.pointer (some ⟨g, s + j, none⟩))) w := by
  unfold execOp
  simp only [ho, h, h']
  simp [go_sem, Tryz.underlying23, hj]
theorem run_idxB {ρ : Operand → Value} (w : World) {o : Oper} {x y : Operand} {g s j n c : Nat} (ho : o.op = .indexAddr 22 x y) (h : ρ x = .slice (some ⟨g, s, none⟩) n c) (h' : ρ y = .int .i64 j) (hj : j < n) : (execOp ρ o).run Tryz.prog w = .ok (.value (.pointer (some ⟨g, s + j, none⟩))) w := by
  unfold execOp
  simp only [ho, h, h']
  simp [go_sem, Tryz.underlying22, hj]
theorem run_addI {ρ : Operand → Value} (w : World) {o : Oper} {x y : Operand} {p q : Int} (ho : o.op = .binOp .add 3 x y 3) (h : ρ x = .int .i64 p) (h' : ρ y = .int .i64 q) (hw : IntKind.i64.wrap (p + q) = p + q) : (execOp ρ o).run Tryz.prog w = .ok (.value (.int .i64 (p + q))) w := by
  unfold execOp
  simp only [ho, h, h']
  simp [go_sem, hw]
theorem run_storeI {ρ : Operand → Value} (w : World) {o : Oper} {x y : Operand} {g j : Nat} {p q : Int} (ho : o.op = .store 3 x y) (h : ρ x = .pointer (some ⟨g, j, none⟩)) (h' : ρ y = .int .i64 q) (hc : w.cell? ⟨g, j, none⟩ = some (.int .i64 p)) (hf : w.frozen? ⟨g, j, none⟩ = false) : (execOp ρ o).run Tryz.prog w = .ok .skip (w.setCell ⟨g, j, none⟩ (.int .i64 q)) := by
  unfold execOp
  simp only [ho, h, h']
  simp [go_sem, hc, hf]
theorem run_storeB {ρ : Operand → Value} (w : World) {o : Oper} {x y : Operand} {g j : Nat} {p q : Int} (ho : o.op = .store 5 x y) (h : ρ x = .pointer (some ⟨g, j, none⟩)) (h' : ρ y = .int .u8 q) (hc : w.cell? ⟨g, j, none⟩ = some (.int .u8 p)) (hf : w.frozen? ⟨g, j, none⟩ = false) : (execOp ρ o).run Tryz.prog w = .ok .skip (w.setCell ⟨g, j, none⟩ (.int .u8 q)) := by
  unfold execOp
  simp only [ho, h, h']
  simp [go_sem, hc, hf]
end Go.Proofs.YtplkmkbambbemadGreatDoor
namespace Go.Proofs.YtplkmkbambbemadGreatDoor
open Go.ChangeShapes Go.WideShapes Go.ChangeAt Go.RowKit
/-- A list of lists of one's own. -/
def OwnR (w : World) (B : Nat) (v : Value) (vs : List Value) : Prop := w.ownsRow B 22 1 v vs.length vs
end Go.Proofs.YtplkmkbambbemadGreatDoor
namespace Go.Proofs.YtplkmkbambbemadGreatDoor
open Go.ChangeShapes Go.WideShapes Go.ChangeAt Go.RowKit
theorem own_growW {w w' : World} {B : Nat} {e : TypeId} {v : Value} {n : Nat} {xs : List Value} {row : Option Nat} (h : w.ownsRow B e 1 v n xs) (hg : w.grownBy w' row) (hr : ∀ k, row = some k → v.ownBlock ≠ some k) : w'.ownsRow B e 1 v n xs := by
  refine ⟨h.1, ?_⟩
  rcases h.2 with h' | ⟨g, cap, cur, h1, h2, h3, h4⟩
  · exact .inl h'
  · have hlt : g < w.heap.size := by
      rcases Nat.lt_or_ge g w.heap.size with hl | hl
      · exact hl
      · rw [Array.getElem?_eq_none hl] at h3; cases h3
    refine .inr ⟨g, cap, cur, h1, h2, (hg.block g hlt (fun e => hr g e.symm ?_)).trans h3, h4⟩
    rw [h1]; rfl
theorem cell_grown {w w' : World} {row : Option Nat} {p : Addr} {v : Value} (h : w.cell? p = some v) (hg : w.grownBy w' row) (hr : ∀ g, row = some g → g ≠ p.block) : w'.cell? p = some v := by
  have := hg.block p.block (World.block_lt_of_cell? w _ h) (fun e => hr _ e.symm rfl)
  rw [← h]
  simp only [World.cell?, this]
/-- One of the two: a copy of l (v5, once b5), the one more number (v6, once b6), both (v7, once b7); its blocks S. -/
structure Ch (w : World) (B0 : Nat) (l : List Int) (x : Int) (v5 v6 v7 : Value) (b5 b6 b7 : Bool) (S : List Nat) : Prop where
  lt : ∀ g ∈ S, B0 ≤ g ∧ g < w.heap.size
  five : b5 = true → b7 = false → Own w B0 v5 l ∧ ∀ g, v5.ownBlock = some g → g ∈ S
  six : b6 = true → b7 = false → ∃ g ∈ S, v6 = .slice (some ⟨g, 0, none⟩) 1 1 ∧ w.cell? ⟨g, 0, none⟩ = some (.int .u8 x)
  seven : b7 = true → Own w B0 v7 (l ++ [x]) ∧ ∀ g, v7.ownBlock = some g → g ∈ S
end Go.Proofs.YtplkmkbambbemadGreatDoor
namespace Go.Proofs.YtplkmkbambbemadGreatDoor
open Go.ChangeShapes Go.WideShapes Go.ChangeAt Go.RowKit
def conDeps : Nat → List Nat
  | 3 => [1, 2]
  | 4 => [3]
  | 5 => [4]
  | 7 => [5, 6]
  | 10 => [8, 9]
  | 11 => [10]
  | 12 => [11]
  | 14 => [12, 13]
  | 15 => [7, 14]
  | 16 => [0, 15]
  | 17 => [16]
  | _ => []
def upd (L : Nat → Bool) (i : Nat) : Nat → Bool := fun j => if j = i then true else L j
theorem upd_same (L : Nat → Bool) (i : Nat) : upd L i i = true := if_pos rfl
theorem upd_other (L : Nat → Bool) {i j : Nat} (h : j ≠ i) : upd L i j = L j := if_neg h
def Clos (L : Nat → Bool) : Prop := ∀ i j, j ∈ conDeps i → L i = true → L j = true
theorem Clos.upd {L : Nat → Bool} (h : Clos L) {i : Nat} (hi : ∀ j ∈ conDeps i, L j = true) : Clos (upd L i) := by
  intro p j hj hp
  by_cases hji : j = i
  · rw [hji]; exact upd_same L i
  · rw [upd_other L hji]
    by_cases hpi : p = i
    · subst hpi; exact hi j hj
    · rw [upd_other L hpi] at hp
      exact h p j hj hp
/-- Behind the last but two all is done. -/
theorem Clos.all15 {L : Nat → Bool} (h : Clos L) (h15 : L 15 = true) : ∀ j, 1 ≤ j → j ≤ 15 → L j = true := by
  have l7 := h 15 7 (by decide) h15
  have l14 := h 15 14 (by decide) h15
  have l5 := h 7 5 (by decide) l7
  have l6 := h 7 6 (by decide) l7
  have l4 := h 5 4 (by decide) l5
  have l3 := h 4 3 (by decide) l4
  have l2 := h 3 2 (by decide) l3
  have l1 := h 3 1 (by decide) l3
  have l12 := h 14 12 (by decide) l14
  have l13 := h 14 13 (by decide) l14
  have l11 := h 12 11 (by decide) l12
  have l10 := h 11 10 (by decide) l11
  have l9 := h 10 9 (by decide) l10
  have l8 := h 10 8 (by decide) l10
  intro j h1 h2
  have : j = 1 ∨ j = 2 ∨ j = 3 ∨ j = 4 ∨ j = 5 ∨ j = 6 ∨ j = 7 ∨ j = 8 ∨ j = 9 ∨ j = 10 ∨ j = 11 ∨ j = 12 ∨ j = 13 ∨ j = 14 ∨ j = 15 := by omega
  rcases this with rfl | rfl | rfl | rfl | rfl | rfl | rfl | rfl | rfl | rfl | rfl | rfl | rfl | rfl | rfl <;> assumption
/-- Ahead of the last append. -/
structure ConI (wr : World) (a0 : Act) (pv : Nat → Option Value) (l : List Int) (L : Nat → Bool) (a : Act) (w : World) : Prop where
  size : a.tmps.size = a0.tmps.size
  defers : a.defers = a0.defers
  below : Below wr.heap.size wr w
  frame : ∀ s : Nat, s < 22 ∨ 38 < s → a.eval (.tmp s) = a0.eval (.tmp s)
  pure : ∀ i v, pv i = some v → L i = true → a.eval (.tmp (22 + i)) = v
  clos : Clos L
  ch : ∃ SA SB, (∀ g ∈ SA, g ∉ SB) ∧ Ch w wr.heap.size l 0 (a.eval (.tmp 27)) (a.eval (.tmp 28)) (a.eval (.tmp 29)) (L 5) (L 6) (L 7) SA ∧ Ch w wr.heap.size l 1 (a.eval (.tmp 34)) (a.eval (.tmp 35)) (a.eval (.tmp 36)) (L 12) (L 13) (L 14) SB
  last : L 15 = true → ∃ g, wr.heap.size ≤ g ∧ a.eval (.tmp 37) = .slice (some ⟨g, 0, none⟩) 2 2 ∧ w.cell? ⟨g, 0, none⟩ = some (a.eval (.tmp 29)) ∧ w.cell? ⟨g, 1, none⟩ = some (a.eval (.tmp 36))
  no16 : L 16 = false
/-- What every operation ahead of the last append leaves as it was. -/
theorem ConI.step {wr : World} {a0 : Act} {pv : Nat → Option Value} {l : List Int} {L : Nat → Bool} {a : Act} {w w' : World} {i : Nat} {v : Value} {row : Option Nat} (h : ConI wr a0 pv l L a w) (hi : i ≤ 14) (hN : 39 ≤ a0.tmps.size) (hLi : L i = false)
    (hd : ∀ j ∈ conDeps i, L j = true) (hg : w.grownBy w' row) (hr : ∀ g, row = some g → wr.heap.size ≤ g) (hp : ∀ u, pv i = some u → v = u) (h0 : i = 0 → w' = w)
    (hch : ∃ SA SB, (∀ g ∈ SA, g ∉ SB) ∧ Ch w' wr.heap.size l 0 ((a.put (some (22 + i)) v).eval (.tmp 27)) ((a.put (some (22 + i)) v).eval (.tmp 28)) ((a.put (some (22 + i)) v).eval (.tmp 29)) (upd L i 5) (upd L i 6) (upd L i 7) SA ∧ Ch w' wr.heap.size l 1 ((a.put (some (22 + i)) v).eval (.tmp 34)) ((a.put (some (22 + i)) v).eval (.tmp 35)) ((a.put (some (22 + i)) v).eval (.tmp 36)) (upd L i 12) (upd L i 13) (upd L i 14) SB) :
    ConI wr a0 pv l (upd L i) (a.put (some (22 + i)) v) w' := by
  refine ⟨by simp [Act.put, h.size], h.defers, h.below.grown hg h.below.size hr, fun s hs => ?_, fun j u hj hL => ?_, h.clos.upd hd, hch, fun h15 => ?_, ?_⟩
  · rw [Act.eval_put_ne a _ _ _ (by omega)]
    exact h.frame s hs
  · by_cases hji : j = i
    · subst hji
      rw [Act.eval_put_same a _ _ (by rw [h.size]; omega)]
      exact hp u hj
    · rw [upd_other L hji] at hL
      rw [Act.eval_put_ne a _ _ _ (by omega)]
      exact h.pure j u hj hL
  · rw [upd_other L (by omega)] at h15
    by_cases hi0 : i = 0
    · obtain rfl := h0 hi0
      obtain ⟨g, h1, h2, h3, h4⟩ := h.last h15
      refine ⟨g, h1, ?_, ?_, ?_⟩
      · rw [Act.eval_put_ne a _ _ _ (by omega)]; exact h2
      · rw [Act.eval_put_ne a _ _ _ (by omega)]; exact h3
      · rw [Act.eval_put_ne a _ _ _ (by omega)]; exact h4
    · have := h.clos.all15 h15 i (by omega) (by omega)
      rw [hLi] at this
      cases this
  · rw [upd_other L (by omega)]
    exact h.no16
theorem grown_refl (w : World) : w.grownBy w none := ⟨rfl, rfl, rfl, Nat.le_refl _, fun _ _ _ => rfl⟩
/-- A step that only reads. -/
theorem ConI.read {wr : World} {a0 : Act} {pv : Nat → Option Value} {l : List Int} {L : Nat → Bool} {a : Act} {w : World} {i : Nat} {v : Value} (h : ConI wr a0 pv l L a w) (hi : i ≤ 4 ∨ (8 ≤ i ∧ i ≤ 11)) (hN : 39 ≤ a0.tmps.size) (hLi : L i = false)
    (hd : ∀ j ∈ conDeps i, L j = true) (hp : pv i = some v) : ConI wr a0 pv l (upd L i) (a.put (some (22 + i)) v) w := by
  refine h.step (row := none) (by omega) hN hLi hd (grown_refl w) (fun g e => by cases e) (fun u hu => by rw [hp] at hu; exact Option.some.inj hu) (fun _ => rfl) ?_
  obtain ⟨SA, SB, h1, h2, h3⟩ := h.ch
  refine ⟨SA, SB, h1, ?_, ?_⟩
  · rw [Act.eval_put_ne a _ _ _ (by omega), Act.eval_put_ne a _ _ _ (by omega), Act.eval_put_ne a _ _ _ (by omega), upd_other L (by omega), upd_other L (by omega), upd_other L (by omega)]
    exact h2
  · rw [Act.eval_put_ne a _ _ _ (by omega), Act.eval_put_ne a _ _ _ (by omega), Act.eval_put_ne a _ _ _ (by omega), upd_other L (by omega), upd_other L (by omega), upd_other L (by omega)]
    exact h3
end Go.Proofs.YtplkmkbambbemadGreatDoor
namespace Go.Proofs.YtplkmkbambbemadGreatDoor
open Go.ChangeShapes Go.WideShapes Go.ChangeAt Go.RowKit
/-- Lists of bits, each of one's own. -/
def RowsB (w : World) (B : Nat) (vs : List Value) (LL : List (List Int)) : Prop := vs.length = LL.length ∧ ∀ i, i < LL.length → Own w B (vs.getD i undef) (LL.getD i [])
theorem RowsB.grow {w w' : World} {B : Nat} {vs : List Value} {LL : List (List Int)} {row : Option Nat} (h : RowsB w B vs LL) (hg : w.grownBy w' row) (hr : ∀ g, row = some g → ∀ i, i < LL.length → (vs.getD i undef).ownBlock ≠ some g) : RowsB w' B vs LL :=
  ⟨h.1, fun i hi => own_growW (h.2 i hi) hg (fun k hk => hr k hk i hi)⟩
theorem grown_of_below {w w' : World} (h : Below w.heap.size w w') : w.grownBy w' none := ⟨h.os, h.tape, h.output, h.size, fun k hk _ => h.block k hk⟩
theorem RowsB.below {w w' : World} {B : Nat} {vs : List Value} {LL : List (List Int)} (h : RowsB w B vs LL) (hb : Below w.heap.size w w') : RowsB w' B vs LL := h.grow (grown_of_below hb) (fun g e => by cases e)
theorem OwnR.cell {w : World} {B g n c : Nat} {vs : List Value} (h : OwnR w B (.slice (some ⟨g, 0, none⟩) n c) vs) {i : Nat} (hi : i < vs.length) : w.cell? ⟨g, i, none⟩ = some (vs.getD i undef) := by
  have hl : vs.length = n := by
    rcases h.2 with ⟨h', _⟩ | ⟨g', cap', cur', h', _⟩
    · cases h'
    · simp only [Value.slice.injEq] at h'
      exact h'.2.1.symm
  subst hl
  unfold OwnR at h
  rw [h.cellAt i (by omega)]
  simp [List.getD, hi]
theorem OwnR.shape1 {w : World} {B : Nat} {v : Value} {vs : List Value} (h : OwnR w B v vs) (h1 : 1 ≤ vs.length) : ∃ g c, v = .slice (some ⟨g, 0, none⟩) vs.length c ∧ vs.length ≤ c ∧ c ≤ maxLen ∧ g < w.heap.size := by
  rcases h.2 with ⟨_, h0⟩ | ⟨g, cap, cur, h', _, hg, h2, h3, _⟩
  · omega
  · exact ⟨g, cap, h', h2, h3, (Array.getElem?_eq_some_iff.1 hg).1⟩
theorem OwnR.below {w w' : World} {B : Nat} {v : Value} {vs : List Value} (h : OwnR w B v vs) (hb : Below w.heap.size w w') : OwnR w' B v vs := own_growW h (grown_of_below hb) (fun k e => by cases e)
end Go.Proofs.YtplkmkbambbemadGreatDoor
namespace Go.Proofs.YtplkmkbambbemadGreatDoor
open Go.ChangeShapes Go.WideShapes Go.ChangeAt Go.RowKit Go.Shelf
/-- Points of one's own. -/
def cellsP (ps : List (Int × Int)) : List Value := ps.flatMap fun p => [.int .i64 p.1, .int .i64 p.2]
def OwnP (w : World) (B : Nat) (v : Value) (ps : List (Int × Int)) : Prop := w.ownsRow B 29 2 v ps.length (cellsP ps)
theorem cellsP_at (ps : List (Int × Int)) : ∀ i, i < ps.length → (cellsP ps)[i * 2]? = some (.int .i64 (ps.getD i (0, 0)).1) ∧ (cellsP ps)[i * 2 + 1]? = some (.int .i64 (ps.getD i (0, 0)).2) := by
  induction ps with
  | nil => intro i hi; simp at hi
  | cons p ps ih =>
    intro i hi
    have e : cellsP (p :: ps) = .int .i64 p.1 :: .int .i64 p.2 :: cellsP ps := rfl
    cases i with
    | zero => rw [e]; simp [List.getD]
    | succ i =>
      have := ih i (by simpa using hi)
      rw [e, show (i + 1) * 2 = i * 2 + 1 + 1 by omega, List.getElem?_cons_succ, List.getElem?_cons_succ, show i * 2 + 1 + 1 + 1 = (i * 2 + 1) + 1 + 1 by omega, List.getElem?_cons_succ, List.getElem?_cons_succ]
      simpa [List.getD] using this
theorem OwnP.pts {w : World} {B n c : Nat} {a : Option Addr} {ps : List (Int × Int)} (h : OwnP w B (.slice a n c) ps) : Pts w a ps := by
  intro hne
  rcases h.2 with ⟨_, h0⟩ | ⟨g, cap, cur, h', _⟩
  · exact absurd (List.eq_nil_of_length_eq_zero h0) hne
  · simp only [Value.slice.injEq] at h'
    obtain ⟨rfl, rfl, rfl⟩ := h'
    refine ⟨g, 0, rfl, fun i hi => ?_⟩
    have := cellsP_at ps i hi
    unfold OwnP at h
    rw [Nat.zero_add, h.cellAt _ (by omega), h.cellAt _ (by omega)]
    exact this
theorem OwnP.shape {w : World} {B : Nat} {v : Value} {ps : List (Int × Int)} (h : OwnP w B v ps) : ∃ a c, v = .slice a ps.length c ∧ ps.length ≤ c ∧ c ≤ maxLen := by
  rcases h.2 with ⟨rfl, h0⟩ | ⟨g, cap, cur, rfl, _, _, h1, h2, _⟩
  · exact ⟨none, 0, by rw [h0], by omega, by unfold maxLen; omega⟩
  · exact ⟨_, cap, rfl, h1, h2⟩
def ptDeps : Nat → List Nat
  | 3 => [1, 2]
  | 4 => [3]
  | 5 => [4]
  | 8 => [6, 7]
  | 9 => [8]
  | 10 => [9]
  | 11 => [5, 10]
  | 12 => [11]
  | 13 => [0, 12]
  | 14 => [13]
  | _ => []
def ClosP (L : Nat → Bool) : Prop := ∀ i j, j ∈ ptDeps i → L i = true → L j = true
theorem ClosP.upd {L : Nat → Bool} (h : ClosP L) {i : Nat} (hi : ∀ j ∈ ptDeps i, L j = true) : ClosP (upd L i) := by
  intro p j hj hp
  by_cases hji : j = i
  · rw [hji]; exact upd_same L i
  · rw [upd_other L hji]
    by_cases hpi : p = i
    · subst hpi; exact hi j hj
    · rw [upd_other L hpi] at hp
      exact h p j hj hp
structure PtI (wr : World) (a0 : Act) (pv : Nat → Option Value) (x y : Int) (L : Nat → Bool) (a : Act) (w : World) : Prop where
  size : a.tmps.size = a0.tmps.size
  defers : a.defers = a0.defers
  below : Below wr.heap.size wr w
  frame : ∀ s : Nat, s < 46 ∨ 59 < s → a.eval (.tmp s) = a0.eval (.tmp s)
  pure : ∀ i v, pv i = some v → L i = true → a.eval (.tmp (46 + i)) = v
  clos : ClosP L
  last : L 12 = true → ∃ g, wr.heap.size ≤ g ∧ a.eval (.tmp 58) = .slice (some ⟨g, 0, none⟩) 1 1 ∧ w.cell? ⟨g, 0, none⟩ = some (.int .i64 x) ∧ w.cell? ⟨g, 1, none⟩ = some (.int .i64 y)
  no13 : L 13 = false
structure PtF (wr : World) (a0 : Act) (B : Nat) (v8 : Value) (ps : List (Int × Int)) (p : Int × Int) (v' : Value) (a : Act) (w : World) : Prop where
  size : a.tmps.size = a0.tmps.size
  defers : a.defers = a0.defers
  frame : ∀ s : Nat, s < 46 ∨ 59 < s → s ≠ 8 → a.eval (.tmp s) = a0.eval (.tmp s)
  facts : ∃ w1, OwnP w B v' (ps ++ [p]) ∧ Below wr.heap.size wr w1 ∧ w1.grownBy w v8.ownBlock ∧ (v'.ownBlock = v8.ownBlock ∨ v'.ownBlock = some w1.heap.size)
theorem PtI.step {wr : World} {a0 : Act} {pv : Nat → Option Value} {x y : Int} {L : Nat → Bool} {a : Act} {w w' : World} {i : Nat} {v : Value} (h : PtI wr a0 pv x y L a w) (hi : i ≤ 11) (hN : 60 ≤ a0.tmps.size) (hd : ∀ j ∈ ptDeps i, L j = true) (hg : w.grownBy w' none) (hp : pv i = some v) : PtI wr a0 pv x y (upd L i) (a.put (some (46 + i)) v) w' := by
  refine ⟨by simp [Act.put, h.size], h.defers, h.below.grown hg h.below.size (fun g e => by cases e), fun s hs => ?_, fun j u hj hL => ?_, h.clos.upd hd, fun h12 => ?_, ?_⟩
  · rw [Act.eval_put_ne a _ _ _ (by omega)]
    exact h.frame s hs
  · by_cases hji : j = i
    · subst hji
      rw [Act.eval_put_same a _ _ (by rw [h.size]; omega)]
      rw [hp] at hj
      exact Option.some.inj hj
    · rw [upd_other L hji] at hL
      rw [Act.eval_put_ne a _ _ _ (by omega)]
      exact h.pure j u hj hL
  · rw [upd_other L (by omega)] at h12
    obtain ⟨g, h1, h2, h3, h4⟩ := h.last h12
    refine ⟨g, h1, ?_, cell_grown h3 hg (fun k e => by cases e), cell_grown h4 hg (fun k e => by cases e)⟩
    rw [Act.eval_put_ne a _ _ _ (by omega)]
    exact h2
  · rw [upd_other L (by omega)]
    exact h.no13
end Go.Proofs.YtplkmkbambbemadGreatDoor
