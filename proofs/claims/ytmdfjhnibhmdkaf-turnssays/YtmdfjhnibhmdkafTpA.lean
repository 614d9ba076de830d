import Derived.Test.YtmdfjhnibhmdkafTnG
namespace Go.Proofs.Ytmdfjhnibhmdkaf
open Go.ChangeShapes Go.WideShapes Go.ChangeAt Go.RowKit

/-! THE PROGRAM'S turns and slots in memory. -/

/-- A block whose cells are told by their places. -/
def FunAt (T : TypeId) (N : Nat) (w : World) (g : Nat) (f : Nat → Value) : Prop := w.heap[g]? = some (.cells ((List.range N).map f).toArray T (0, 0))
theorem FunAt.lt {T : TypeId} {N : Nat} {w : World} {g : Nat} {f : Nat → Value} (h : FunAt T N w g f) : g < w.heap.size := (Array.getElem?_eq_some_iff.1 h).1
theorem FunAt.cell {T : TypeId} {N : Nat} {w : World} {g : Nat} {f : Nat → Value} (h : FunAt T N w g f) {j : Nat} (hj : j < N) : w.cell? ⟨g, j, none⟩ = some (f j) := by
  rw [cell_of_row _ _ _ _ _ _ h, List.getElem?_toArray, List.getElem?_map, List.getElem?_range hj]
  rfl
theorem FunAt.free {T : TypeId} {N : Nat} {w : World} {g : Nat} {f : Nat → Value} (h : FunAt T N w g f) (j : Nat) : w.frozen? ⟨g, j, none⟩ = false := frozen_of_row w g j _ T h
theorem FunAt.congr {T : TypeId} {N : Nat} {w : World} {g : Nat} {f f' : Nat → Value} (h : FunAt T N w g f) (e : ∀ i, i < N → f' i = f i) : FunAt T N w g f' := by
  unfold FunAt
  rw [show (List.range N).map f' = (List.range N).map f from List.map_congr_left fun i hi => e i (List.mem_range.1 hi)]
  exact h
theorem FunAt.set {T : TypeId} {N : Nat} {w : World} {g : Nat} {f f' : Nat → Value} (h : FunAt T N w g f) {j : Nat} {v : Value} (e : ∀ i, i < N → f' i = if i = j then v else f i) : FunAt T N (w.setCell ⟨g, j, none⟩ v) g f' := by
  refine FunAt.congr (f := fun i => if i = j then v else f i) ?_ e
  have h1 := heap_setCell_same w g j _ _ v h
  refine h1.trans ?_
  rw [List.setIfInBounds_toArray]
  congr 3
  refine List.ext_getElem (by simp) fun i h1 h2 => ?_
  rw [List.getElem_set]
  simp only [List.getElem_map, List.getElem_range]
  by_cases ej : j = i
  · rw [if_pos ej, if_pos ej.symm]
  · rw [if_neg ej, if_neg fun e => ej e.symm]
theorem FunAt.other {T : TypeId} {N : Nat} {w : World} {g : Nat} {f : Nat → Value} (h : FunAt T N w g f) (p : Addr) (x : Value) (hp : g ≠ p.block) : FunAt T N (w.setCell p x) g f := (heap_setCell_other w p g x hp).trans h
theorem FunAt.below {T : TypeId} {N : Nat} {w w' : World} {g : Nat} {f : Nat → Value} (h : FunAt T N w g f) (hb : Below w.heap.size w w') : FunAt T N w' g f := (hb.block g h.lt).trans h
theorem FunAt.kept {T : TypeId} {N : Nat} {S : List Nat} {w w' : World} {g : Nat} {f : Nat → Value} (h : FunAt T N w g f) (hk : Kept S w w') (hg : g ∉ S) : FunAt T N w' g f := (hk.block g h.lt hg).trans h
theorem FunAt.ne {T T' : TypeId} {N N' : Nat} {w : World} {g g' : Nat} {f f' : Nat → Value} (h : FunAt T N w g f) (h' : FunAt T' N' w g' f') (hT : T ≠ T') : g ≠ g' := by
  rintro rfl
  unfold FunAt at h h'
  rw [h] at h'
  simp at h'
  exact hT h'.2
/-- The program's turns: quantum, seventeen credits, last, open. -/
def ptF (q : Int) (last : Nat) (opn : Bool) (cr : Nat → Int) (j : Nat) : Value := if j = 0 then .int .i64 q else if j ≤ 17 then .int .i64 (cr (j - 1)) else if j = 18 then .int .i64 (last : Int) else .bool opn
def PTurn (w : World) (r : Nat) (q : Int) (last : Nat) (opn : Bool) (cr : Nat → Int) : Prop := FunAt 44 20 w r (ptF q last opn cr)
theorem PTurn.head {w : World} {r : Nat} {q : Int} {last : Nat} {opn : Bool} {cr : Nat → Int} (h : PTurn w r q last opn cr) : w.cell? ⟨r, 0, none⟩ = some (.int .i64 q) ∧ w.cell? ⟨r, 18, none⟩ = some (.int .i64 (last : Int)) ∧ w.cell? ⟨r, 19, none⟩ = some (.bool opn) := ⟨FunAt.cell h (by omega), FunAt.cell h (by omega), FunAt.cell h (by omega)⟩
theorem PTurn.credit {w : World} {r : Nat} {q : Int} {last : Nat} {opn : Bool} {cr : Nat → Int} (h : PTurn w r q last opn cr) {a : Nat} (ha : a ≤ 16) : w.cell? ⟨r, 1 + a, none⟩ = some (.int .i64 (cr a)) := by
  rw [FunAt.cell h (j := 1 + a) (by omega)]
  unfold ptF
  rw [if_neg (by omega), if_pos (by omega), Nat.add_sub_cancel_left]
theorem PTurn.setLast {w : World} {r : Nat} {q : Int} {last : Nat} {opn : Bool} {cr : Nat → Int} (h : PTurn w r q last opn cr) (x : Nat) : PTurn (w.setCell ⟨r, 18, none⟩ (.int .i64 (x : Int))) r q x opn cr := FunAt.set h fun i hi => by
  unfold ptF
  by_cases e : i = 18
  · subst e; rfl
  · simp [e]
theorem PTurn.setOpn {w : World} {r : Nat} {q : Int} {last : Nat} {opn : Bool} {cr : Nat → Int} (h : PTurn w r q last opn cr) (b : Bool) : PTurn (w.setCell ⟨r, 19, none⟩ (.bool b)) r q last b cr := FunAt.set h fun i hi => by
  unfold ptF
  by_cases e : i = 19
  · subst e; rfl
  · have : i ≤ 18 := by omega
    by_cases e0 : i = 0
    · simp [e0]
    · by_cases e1 : i ≤ 17
      · simp [e, e0, e1]
      · have e2 : i = 18 := by omega
        simp [e2]
theorem PTurn.setCr {w : World} {r : Nat} {q : Int} {last : Nat} {opn : Bool} {cr : Nat → Int} (h : PTurn w r q last opn cr) {a : Nat} (ha : a ≤ 16) (x : Int) : PTurn (w.setCell ⟨r, 1 + a, none⟩ (.int .i64 x)) r q last opn (upd cr a x) := FunAt.set h fun i hi => by
  unfold ptF upd
  by_cases e0 : i = 0
  · rw [if_pos e0, if_pos e0, if_neg (show ¬ i = 1 + a by omega)]
  · rw [if_neg e0, if_neg e0]
    by_cases e1 : i ≤ 17
    · rw [if_pos e1, if_pos e1]
      by_cases e : i = 1 + a
      · rw [if_pos e, if_pos (by omega)]
      · rw [if_neg e, if_neg (by omega)]
    · rw [if_neg e1, if_neg e1, if_neg (show ¬ i = 1 + a by omega)]
/-- The program's slot: seventeen users, how many wait, whose the blocks are, how many were given. -/
def slF (wf bw ft : Nat → Int) (wt : Int) (ob n g : Nat) (j : Nat) : Value := if j < 51 then (if j % 3 = 0 then .int .i64 (wf (j / 3)) else if j % 3 = 1 then .int .i64 (bw (j / 3)) else .int .i64 (ft (j / 3))) else if j = 51 then .int .i64 wt else if j = 52 then .slice (some ⟨ob, 0, none⟩) n n else .int .i64 (g : Int)
def PSlot (w : World) (sb : Nat) (wf bw ft : Nat → Int) (wt : Int) (ob n g : Nat) : Prop := FunAt 51 54 w sb (slF wf bw ft wt ob n g)
theorem PSlot.user {w : World} {sb : Nat} {wf bw ft : Nat → Int} {wt : Int} {ob n g : Nat} (h : PSlot w sb wf bw ft wt ob n g) {a : Nat} (ha : a ≤ 16) : w.cell? ⟨sb, a * 3, none⟩ = some (.int .i64 (wf a)) ∧ w.cell? ⟨sb, a * 3 + 1, none⟩ = some (.int .i64 (bw a)) ∧ w.cell? ⟨sb, a * 3 + 2, none⟩ = some (.int .i64 (ft a)) := by
  refine ⟨?_, ?_, ?_⟩
  · rw [FunAt.cell h (j := a * 3) (by omega)]
    unfold slF
    rw [if_pos (by omega), if_pos (by omega), show a * 3 / 3 = a by omega]
  · rw [FunAt.cell h (j := a * 3 + 1) (by omega)]
    unfold slF
    rw [if_pos (by omega), if_neg (by omega), if_pos (by omega), show (a * 3 + 1) / 3 = a by omega]
  · rw [FunAt.cell h (j := a * 3 + 2) (by omega)]
    unfold slF
    rw [if_pos (by omega), if_neg (by omega), if_neg (by omega), show (a * 3 + 2) / 3 = a by omega]
theorem PSlot.tail {w : World} {sb : Nat} {wf bw ft : Nat → Int} {wt : Int} {ob n g : Nat} (h : PSlot w sb wf bw ft wt ob n g) : w.cell? ⟨sb, 51, none⟩ = some (.int .i64 wt) ∧ w.cell? ⟨sb, 52, none⟩ = some (.slice (some ⟨ob, 0, none⟩) n n) ∧ w.cell? ⟨sb, 53, none⟩ = some (.int .i64 (g : Int)) := ⟨FunAt.cell h (by omega), FunAt.cell h (by omega), FunAt.cell h (by omega)⟩
theorem PSlot.setWho {w : World} {sb : Nat} {wf bw ft : Nat → Int} {wt : Int} {ob n g : Nat} (h : PSlot w sb wf bw ft wt ob n g) {a : Nat} (ha : a ≤ 16) (x : Int) : PSlot (w.setCell ⟨sb, a * 3, none⟩ (.int .i64 x)) sb (upd wf a x) bw ft wt ob n g := FunAt.set h fun i hi => by
  unfold slF upd
  by_cases h1 : i < 51
  · rw [if_pos h1, if_pos h1]
    by_cases h2 : i % 3 = 0
    · rw [if_pos h2, if_pos h2]
      by_cases e : i = a * 3
      · rw [if_pos e, if_pos (by omega)]
      · rw [if_neg e, if_neg (by omega)]
    · rw [if_neg h2, if_neg h2, if_neg (show ¬ i = a * 3 by omega)]
  · rw [if_neg h1, if_neg h1, if_neg (show ¬ i = a * 3 by omega)]
theorem PSlot.setBy {w : World} {sb : Nat} {wf bw ft : Nat → Int} {wt : Int} {ob n g : Nat} (h : PSlot w sb wf bw ft wt ob n g) {a : Nat} (ha : a ≤ 16) (x : Int) : PSlot (w.setCell ⟨sb, a * 3 + 1, none⟩ (.int .i64 x)) sb wf (upd bw a x) ft wt ob n g := FunAt.set h fun i hi => by
  unfold slF upd
  by_cases h1 : i < 51
  · rw [if_pos h1, if_pos h1]
    by_cases h2 : i % 3 = 0
    · rw [if_pos h2, if_pos h2, if_neg (show ¬ i = a * 3 + 1 by omega)]
    · rw [if_neg h2, if_neg h2]
      by_cases h3 : i % 3 = 1
      · rw [if_pos h3, if_pos h3]
        by_cases e : i = a * 3 + 1
        · rw [if_pos e, if_pos (by omega)]
        · rw [if_neg e, if_neg (by omega)]
      · rw [if_neg h3, if_neg h3, if_neg (show ¬ i = a * 3 + 1 by omega)]
  · rw [if_neg h1, if_neg h1, if_neg (show ¬ i = a * 3 + 1 by omega)]
theorem PSlot.setFt {w : World} {sb : Nat} {wf bw ft : Nat → Int} {wt : Int} {ob n g : Nat} (h : PSlot w sb wf bw ft wt ob n g) {a : Nat} (ha : a ≤ 16) (x : Int) : PSlot (w.setCell ⟨sb, a * 3 + 2, none⟩ (.int .i64 x)) sb wf bw (upd ft a x) wt ob n g := FunAt.set h fun i hi => by
  unfold slF upd
  by_cases h1 : i < 51
  · rw [if_pos h1, if_pos h1]
    by_cases h2 : i % 3 = 0
    · rw [if_pos h2, if_pos h2, if_neg (show ¬ i = a * 3 + 2 by omega)]
    · rw [if_neg h2, if_neg h2]
      by_cases h3 : i % 3 = 1
      · rw [if_pos h3, if_pos h3, if_neg (show ¬ i = a * 3 + 2 by omega)]
      · rw [if_neg h3, if_neg h3]
        by_cases e : i = a * 3 + 2
        · rw [if_pos e, if_pos (by omega)]
        · rw [if_neg e, if_neg (by omega)]
  · rw [if_neg h1, if_neg h1, if_neg (show ¬ i = a * 3 + 2 by omega)]
theorem PSlot.setWt {w : World} {sb : Nat} {wf bw ft : Nat → Int} {wt : Int} {ob n g : Nat} (h : PSlot w sb wf bw ft wt ob n g) (x : Int) : PSlot (w.setCell ⟨sb, 51, none⟩ (.int .i64 x)) sb wf bw ft x ob n g := FunAt.set h fun i hi => by
  unfold slF
  by_cases h1 : i < 51
  · rw [if_pos h1, if_pos h1, if_neg (show ¬ i = 51 by omega)]
  · rw [if_neg h1, if_neg h1]
    by_cases e : i = 51
    · rw [if_pos e, if_pos e]
    · rw [if_neg e, if_neg e, if_neg e]
theorem PSlot.setG {w : World} {sb : Nat} {wf bw ft : Nat → Int} {wt : Int} {ob n g : Nat} (h : PSlot w sb wf bw ft wt ob n g) (x : Nat) : PSlot (w.setCell ⟨sb, 53, none⟩ (.int .i64 (x : Int))) sb wf bw ft wt ob n x := FunAt.set h fun i hi => by
  unfold slF
  by_cases h1 : i < 51
  · rw [if_pos h1, if_pos h1, if_neg (show ¬ i = 53 by omega)]
  · rw [if_neg h1, if_neg h1]
    by_cases e : i = 53
    · subst e; rfl
    · by_cases e1 : i = 51
      · rw [if_pos e1, if_pos e1, if_neg e]
      · have e2 : i = 52 := by omega
        subst e2; rfl
/-- How many of the sixteen wait. -/
def cntW (bw : Nat → Int) : Nat := ((List.range 16).filter fun a => decide (0 < bw (a + 1))).length
theorem cnt_any (bw : Nat → Int) : decide ((0 : Int) < (cntW bw : Nat)) = anyB bw := by
  unfold cntW anyB
  cases h : (List.range 16).any fun a => decide (0 < bw (a + 1)) with
  | true =>
    rw [List.any_eq_true] at h
    obtain ⟨a, ha, hp⟩ := h
    have hm : a ∈ (List.range 16).filter fun a => decide (0 < bw (a + 1)) := List.mem_filter.2 ⟨ha, hp⟩
    have := List.length_pos_of_mem hm
    exact decide_eq_true (by omega)
  | false =>
    have : (List.range 16).filter (fun a => decide (0 < bw (a + 1))) = [] := by
      rw [List.filter_eq_nil_iff]
      intro a ha
      rw [List.any_eq_false] at h
      exact h a ha
    rw [this]
    rfl
theorem filter_one (p : Nat → Bool) (k : Nat) : ([k].filter p).length = if p k = true then 1 else 0 := by
  by_cases h : p k = true <;> simp [h]
theorem filter_upd (bw : Nat → Int) (c : Nat) (x : Int) : ∀ (k : Nat), ((List.range k).filter fun a => decide (0 < upd bw c x (a + 1))).length + (if 1 ≤ c ∧ c ≤ k ∧ 0 < bw c then 1 else 0) = ((List.range k).filter fun a => decide (0 < bw (a + 1))).length + (if 1 ≤ c ∧ c ≤ k ∧ 0 < x then 1 else 0)
  | 0 => by
    rw [if_neg (by omega), if_neg (by omega)]
    rfl
  | k + 1 => by
    have ih := filter_upd bw c x k
    rw [List.range_succ, List.filter_append, List.filter_append, List.length_append, List.length_append, filter_one, filter_one]
    by_cases e : c = k + 1
    · subst e
      rw [upd_at]
      rw [if_neg (by omega), if_neg (by omega)] at ih
      by_cases h1 : 0 < bw (k + 1) <;> by_cases h2 : 0 < x <;> simp only [h1, h2, decide_true, decide_false, if_true, if_false, and_true, and_false, Nat.le_refl, Nat.le_add_left] <;> simp <;> omega
    · rw [upd_ne _ _ (fun h => e h.symm)]
      have e1 : (1 ≤ c ∧ c ≤ k + 1 ∧ 0 < bw c) ↔ (1 ≤ c ∧ c ≤ k ∧ 0 < bw c) := by omega
      have e2 : (1 ≤ c ∧ c ≤ k + 1 ∧ 0 < x) ↔ (1 ≤ c ∧ c ≤ k ∧ 0 < x) := by omega
      simp only [e1, e2]
      omega
theorem cnt_upd {bw : Nat → Int} {c : Nat} (h1 : 1 ≤ c) (h2 : c ≤ 16) (x : Int) : cntW (upd bw c x) + (if 0 < bw c then 1 else 0) = cntW bw + (if 0 < x then 1 else 0) := by
  have := filter_upd bw c x 16
  have e1 : (1 ≤ c ∧ c ≤ 16 ∧ 0 < bw c) ↔ 0 < bw c := by omega
  have e2 : (1 ≤ c ∧ c ≤ 16 ∧ 0 < x) ↔ 0 < x := by omega
  simp only [e1, e2] at this
  exact this
theorem cnt_le (bw : Nat → Int) : cntW bw ≤ 16 := by
  unfold cntW
  refine Nat.le_trans (List.length_filter_le _ _) ?_
  simp
end Go.Proofs.Ytmdfjhnibhmdkaf
