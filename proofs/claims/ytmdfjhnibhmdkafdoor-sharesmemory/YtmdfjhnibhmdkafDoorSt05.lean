import Derived.Test.YtmdfjhnibhmdkafDoorSt04
namespace Go.Proofs.YtmdfjhnibhmdkafDoor
open Go.ChangeShapes Go.WideShapes Go.ChangeAt Go.RowKit
/-- A block whose cells are told by their places. -/
def FunAt (T : TypeId) (N : Nat) (w : World) (g : Nat) (f : Nat → Value) : Prop := w.heap[g]? = some (.cells ((List.range N).map f).toArray T (0, 0))
theorem FunAt.lt {T : TypeId} {N : Nat} {w : World} {g : Nat} {f : Nat → Value} (h : FunAt T N w g f) : g < w.heap.size := (Array.getElem?_eq_some_iff.1 h).1
theorem FunAt.cell {T : TypeId} {N : Nat} {w : World} {g : Nat} {f : Nat → Value} (h : FunAt T N w g f) {j : Nat} (hj : j < N) : w.cell? ⟨g, j, none⟩ = some (f j) := by
  rw [cell_of_row _ _ _ _ _ _ h, List.getElem?_toArray, List.getElem?_map, List.getElem?_range hj]
  rfl
theorem FunAt.free {T : TypeId} {N : Nat} {w : World} {g : Nat} {f : Nat → Value} (h : FunAt T N w g f) (j : Nat) : w.frozen? ⟨g, j, none⟩ = false := frozen_of_row w g j _ T h
theorem FunAt.congr {T : TypeId} {N : Nat} {w : World} {g : Nat} {f f' : Nat → Value} (h : FunAt T N w g f) (e : ∀ i, i < N → f' i = f i) : FunAt T N w g f' := by
  unfold FunAt
  rw [show (List.range N).map f' = (List.range N).map f from List.map_congr_left fun i hi => e i (List.mem_range.1 hi)]
  exact h
theorem FunAt.set {T : TypeId} {N : Nat} {w : World} {g : Nat} {f f' : Nat → Value} (h : FunAt T N w g f) {j : Nat} {v : Value} (e : ∀ i, i < N → f' i = if i = j then v else f i) : FunAt T N (w.setCell ⟨g, j, none⟩ v) g f' := by
  refine FunAt.congr (f := fun i => if i = j then v else f i) ?_ e
  have h1 := heap_setCell_same w g j _ _ v h
  refine h1.trans ?_
  rw [List.setIfInBounds_toArray]
  congr 3
  refine List.ext_getElem (by simp) fun i h1 h2 => ?_
  rw [List.getElem_set]
  simp only [List.getElem_map, List.getElem_range]
  by_cases ej : j = i
  · rw [if_pos ej, if_pos ej.symm]
  · rw [if_neg ej, if_neg fun e => ej e.symm]
theorem FunAt.other {T : TypeId} {N : Nat} {w : World} {g : Nat} {f : Nat → Value} (h : FunAt T N w g f) (p : Addr) (x : Value) (hp : g ≠ p.block) : FunAt T N (w.setCell p x) g f := (heap_setCell_other w p g x hp).trans h
theorem FunAt.below {T : TypeId} {N : Nat} {w w' : World} {g : Nat} {f : Nat → Value} (h : FunAt T N w g f) (hb : Below w.heap.size w w') : FunAt T N w' g f := (hb.block g h.lt).trans h
theorem FunAt.kept {T : TypeId} {N : Nat} {S : List Nat} {w w' : World} {g : Nat} {f : Nat → Value} (h : FunAt T N w g f) (hk : Kept S w w') (hg : g ∉ S) : FunAt T N w' g f := (hk.block g h.lt hg).trans h
theorem FunAt.ne {T T' : TypeId} {N N' : Nat} {w : World} {g g' : Nat} {f f' : Nat → Value} (h : FunAt T N w g f) (h' : FunAt T' N' w g' f') (hT : T ≠ T') : g ≠ g' := by
  rintro rfl
  unfold FunAt at h h'
  rw [h] at h'
  simp at h'
  exact hT h'.2
/-- The program's turns: quantum, seventeen credits, last, open. -/
def ptF (q : Int) (last : Nat) (opn : Bool) (cr : Nat → Int) (j : Nat) : Value := if j = 0 then .int .i64 q else if j ≤ 17 then .int .i64 (cr (j - 1)) else if j = 18 then .int .i64 (last : Int) else .bool opn
def PTurn (w : World) (r : Nat) (q : Int) (last : Nat) (opn : Bool) (cr : Nat → Int) : Prop := FunAt 85 20 w r (ptF q last opn cr)
theorem PTurn.head {w : World} {r : Nat} {q : Int} {last : Nat} {opn : Bool} {cr : Nat → Int} (h : PTurn w r q last opn cr) : w.cell? ⟨r, 0, none⟩ = some (.int .i64 q) ∧ w.cell? ⟨r, 18, none⟩ = some (.int .i64 (last : Int)) ∧ w.cell? ⟨r, 19, none⟩ = some (.bool opn) := ⟨FunAt.cell h (by omega), FunAt.cell h (by omega), FunAt.cell h (by omega)⟩
theorem PTurn.credit {w : World} {r : Nat} {q : Int} {last : Nat} {opn : Bool} {cr : Nat → Int} (h : PTurn w r q last opn cr) {a : Nat} (ha : a ≤ 16) : w.cell? ⟨r, 1 + a, none⟩ = some (.int .i64 (cr a)) := by
  rw [FunAt.cell h (j := 1 + a) (by omega)]
  unfold ptF
  rw [if_neg (by omega), if_pos (by omega), Nat.add_sub_cancel_left]
theorem PTurn.setLast {w : World} {r : Nat} {q : Int} {last : Nat} {opn : Bool} {cr : Nat → Int} (h : PTurn w r q last opn cr) (x : Nat) : PTurn (w.setCell ⟨r, 18, none⟩ (.int .i64 (x : Int))) r q x opn cr := FunAt.set h fun i hi => by
  unfold ptF
  by_cases e : i = 18
  · subst e; rfl
  · simp [e]
theorem PTurn.setOpn {w : World} {r : Nat} {q : Int} {last : Nat} {opn : Bool} {cr : Nat → Int} (h : PTurn w r q last opn cr) (b : Bool) : PTurn (w.setCell ⟨r, 19, none⟩ (.bool b)) r q last b cr := FunAt.set h fun i hi => by
  unfold ptF
  by_cases e : i = 19
  · subst e; rfl
  · have : i ≤ 18 := by omega
    by_cases e0 : i = 0
    · simp [e0]
    · by_cases e1 : i ≤ 17
      · simp [e, e0, e1]
      · have e2 : i = 18 := by omega
        simp [e2]
theorem PTurn.setCr {w : World} {r : Nat} {q : Int} {last : Nat} {opn : Bool} {cr : Nat → Int} (h : PTurn w r q last opn cr) {a : Nat} (ha : a ≤ 16) (x : Int) : PTurn (w.setCell ⟨r, 1 + a, none⟩ (.int .i64 x)) r q last opn (upd cr a x) := FunAt.set h fun i hi => by
  unfold ptF upd
  by_cases e0 : i = 0
  · rw [if_pos e0, if_pos e0, if_neg (show ¬ i = 1 + a by omega)]
  · rw [if_neg e0, if_neg e0]
    by_cases e1 : i ≤ 17
    · rw [if_pos e1, if_pos e1]
      by_cases e : i = 1 + a
      · rw [if_pos e, if_pos (by omega)]
      · rw [if_neg e, if_neg (by omega)]
    · rw [if_neg e1, if_neg e1, if_neg (show ¬ i = 1 + a by omega)]
/-- The program's slot: seventeen users, how many wait, whose the blocks are, how many were given. -/
def slF (wf bw ft : Nat → Int) (wt : Int) (ob n g : Nat) (j : Nat) : Value := if j < 51 then (if j % 3 = 0 then .int .i64 (wf (j / 3)) else if j % 3 = 1 then .int .i64 (bw (j / 3)) else .int .i64 (ft (j / 3))) else if j = 51 then .int .i64 wt else if j = 52 then .slice (some ⟨ob, 0, none⟩) n n else .int .i64 (g : Int)
def PSlot (w : World) (sb : Nat) (wf bw ft : Nat → Int) (wt : Int) (ob n g : Nat) : Prop := FunAt 92 54 w sb (slF wf bw ft wt ob n g)
theorem PSlot.user {w : World} {sb : Nat} {wf bw ft : Nat → Int} {wt : Int} {ob n g : Nat} (h : PSlot w sb wf bw ft wt ob n g) {a : Nat} (ha : a ≤ 16) : w.cell? ⟨sb, a * 3, none⟩ = some (.int .i64 (wf a)) ∧ w.cell? ⟨sb, a * 3 + 1, none⟩ = some (.int .i64 (bw a)) ∧ w.cell? ⟨sb, a * 3 + 2, none⟩ = some (.int .i64 (ft a)) := by
  refine ⟨?_, ?_, ?_⟩
  · rw [FunAt.cell h (j := a * 3) (by omega)]
    unfold slF
    rw [if_pos (by omega), if_pos (by omega), show a * 3 / 3 = a by omega]
  · rw [FunAt.cell h (j := a * 3 + 1) (by omega)]
    unfold slF
    rw [if_pos (by omega), if_neg (by omega), if_pos (by omega), show (a * 3 + 1) / 3 = a by omega]
  · rw [FunAt.cell h (j := a * 3 + 2) (by omega)]
    unfold slF
    rw [if_pos (by omega), if_neg (by omega), if_neg (by omega), show (a * 3 + 2) / 3 = a by omega]
theorem PSlot.tail {w : World} {sb : Nat} {wf bw ft : Nat → Int} {wt : Int} {ob n g : Nat} (h : PSlot w sb wf bw ft wt ob n g) : w.cell? ⟨sb, 51, none⟩ = some (.int .i64 wt) ∧ w.cell? ⟨sb, 52, none⟩ = some (.slice (some ⟨ob, 0, none⟩) n n) ∧ w.cell? ⟨sb, 53, none⟩ = some (.int .i64 (g : Int)) := ⟨FunAt.cell h (by omega), FunAt.cell h (by omega), FunAt.cell h (by omega)⟩
theorem PSlot.setWho {w : World} {sb : Nat} {wf bw ft : Nat → Int} {wt : Int} {ob n g : Nat} (h : PSlot w sb wf bw ft wt ob n g) {a : Nat} (ha : a ≤ 16) (x : Int) : PSlot (w.setCell ⟨sb, a * 3, none⟩ (.int .i64 x)) sb (upd wf a x) bw ft wt ob n g := FunAt.set h fun i hi => by
  unfold slF upd
  by_cases h1 : i < 51
  · rw [if_pos h1, if_pos h1]
    by_cases h2 : i % 3 = 0
    · rw [if_pos h2, if_pos h2]
      by_cases e : i = a * 3
      · rw [if_pos e, if_pos (by omega)]
      · rw [if_neg e, if_neg (by omega)]
    · rw [if_neg h2, if_neg h2, if_neg (show ¬ i = a * 3 by omega)]
  · rw [if_neg h1, if_neg h1, if_neg (show ¬ i = a * 3 by omega)]
theorem PSlot.setBy {w : World} {sb : Nat} {wf bw ft : Nat → Int} {wt : Int} {ob n g : Nat} (h : PSlot w sb wf bw ft wt ob n g) {a : Nat} (ha : a ≤ 16) (x : Int) : PSlot (w.setCell ⟨sb, a * 3 + 1, none⟩ (.int .i64 x)) sb wf (upd bw a x) ft wt ob n g := FunAt.set h fun i hi => by
  unfold slF upd
  by_cases h1 : i < 51
  · rw [if_pos h1, if_pos h1]
    by_cases h2 : i % 3 = 0
    · rw [if_pos h2, if_pos h2, if_neg (show ¬ i = a * 3 + 1 by omega)]
    · rw [if_neg h2, if_neg h2]
      by_cases h3 : i % 3 = 1
      · rw [if_pos h3, if_pos h3]
        by_cases e : i = a * 3 + 1
        · rw [if_pos e, if_pos (by omega)]
        · rw [if_neg e, if_neg (by omega)]
      · rw [if_neg h3, if_neg h3, if_neg (show ¬ i = a * 3 + 1 by omega)]
  · rw [if_neg h1, if_neg h1, if_neg (show ¬ i = a * 3 + 1 by omega)]
theorem PSlot.setFt {w : World} {sb : Nat} {wf bw ft : Nat → Int} {wt : Int} {ob n g : Nat} (h : PSlot w sb wf bw ft wt ob n g) {a : Nat} (ha : a ≤ 16) (x : Int) : PSlot (w.setCell ⟨sb, a * 3 + 2, none⟩ (.int .i64 x)) sb wf bw (upd ft a x) wt ob n g := FunAt.set h fun i hi => by
  unfold slF upd
  by_cases h1 : i < 51
  · rw [if_pos h1, if_pos h1]
    by_cases h2 : i % 3 = 0
    · rw [if_pos h2, if_pos h2, if_neg (show ¬ i = a * 3 + 2 by omega)]
    · rw [if_neg h2, if_neg h2]
      by_cases h3 : i % 3 = 1
      · rw [if_pos h3, if_pos h3, if_neg (show ¬ i = a * 3 + 2 by omega)]
      · rw [if_neg h3, if_neg h3]
        by_cases e : i = a * 3 + 2
        · rw [if_pos e, if_pos (by omega)]
        · rw [if_neg e, if_neg (by omega)]
  · rw [if_neg h1, if_neg h1, if_neg (show ¬ i = a * 3 + 2 by omega)]
theorem PSlot.setWt {w : World} {sb : Nat} {wf bw ft : Nat → Int} {wt : Int} {ob n g : Nat} (h : PSlot w sb wf bw ft wt ob n g) (x : Int) : PSlot (w.setCell ⟨sb, 51, none⟩ (.int .i64 x)) sb wf bw ft x ob n g := FunAt.set h fun i hi => by
  unfold slF
  by_cases h1 : i < 51
  · rw [if_pos h1, if_pos h1, if_neg (show ¬ i = 51 by omega)]
  · rw [if_neg h1, if_neg h1]
    by_cases e : i = 51
    · rw [if_pos e, if_pos e]
    · rw [if_neg e, if_neg e, if_neg e]
theorem PSlot.setG {w : World} {sb : Nat} {wf bw ft : Nat → Int} {wt : Int} {ob n g : Nat} (h : PSlot w sb wf bw ft wt ob n g) (x : Nat) : PSlot (w.setCell ⟨sb, 53, none⟩ (.int .i64 (x : Int))) sb wf bw ft wt ob n x := FunAt.set h fun i hi => by
  unfold slF
  by_cases h1 : i < 51
  · rw [if_pos h1, if_pos h1, if_neg (show ¬ i = 53 by omega)]
  · rw [if_neg h1, if_neg h1]
    by_cases e : i = 53
    · subst e; rfl
    · by_cases e1 : i = 51
      · rw [if_pos e1, if_pos e1, if_neg e]
      · have e2 : i = 52 := by omega
        subst e2; rfl
/-- How many of the sixteen wait. -/
def cntW (bw : Nat → Int) : Nat := ((List.range 16).filter fun a => decide (0 < bw (a + 1))).length
theorem cnt_any (bw : Nat → Int) : decide ((0 : Int) < (cntW bw : Nat)) = anyB bw := by
  unfold cntW anyB
  cases h : (List.range 16).any fun a => decide (0 < bw (a + 1)) with
  | true =>
    rw [List.any_eq_true] at h
    obtain ⟨a, ha, hp⟩ := h
    have hm : a ∈ (List.range 16).filter fun a => decide (0 < bw (a + 1)) := List.mem_filter.2 ⟨ha, hp⟩
    have := List.length_pos_of_mem hm
    exact decide_eq_true (by omega)
  | false =>
    have : (List.range 16).filter (fun a => decide (0 < bw (a + 1))) = [] := by
      rw [List.filter_eq_nil_iff]
      intro a ha
      rw [List.any_eq_false] at h
      exact h a ha
    rw [this]
    rfl
theorem filter_one (p : Nat → Bool) (k : Nat) : ([k].filter p).length = if p k = true then 1 else 0 := by
  by_cases h : p k = true <;> simp [h]
theorem filter_upd (bw : Nat → Int) (c : Nat) (x : Int) : ∀ (k : Nat), ((List.range k).filter fun a => decide (0 < upd bw c x (a + 1))).length + (if 1 ≤ c ∧ c ≤ k ∧ 0 < bw c then 1 else 0) = ((List.range k).filter fun a => decide (0 < bw (a + 1))).length + (if 1 ≤ c ∧ c ≤ k ∧ 0 < x then 1 else 0)
  | 0 => by
    rw [if_neg (by omega), if_neg (by omega)]
    rfl
  | k + 1 => by
    have ih := filter_upd bw c x k
    rw [List.range_succ, List.filter_append, List.filter_append, List.length_append, List.length_append, filter_one, filter_one]
    by_cases e : c = k + 1
    · subst e
      rw [upd_at]
      rw [if_neg (by omega), if_neg (by omega)] at ih
      by_cases h1 : 0 < bw (k + 1) <;> by_cases h2 : 0 < x <;> simp only [h1, h2, decide_true, decide_false, if_true, if_false, and_true, and_false, Nat.le_refl, Nat.le_add_left] <;> simp <;> omega
    · rw [upd_ne _ _ (fun h => e h.symm)]
      have e1 : (1 ≤ c ∧ c ≤ k + 1 ∧ 0 < bw c) ↔ (1 ≤ c ∧ c ≤ k ∧ 0 < bw c) := by omega
      have e2 : (1 ≤ c ∧ c ≤ k + 1 ∧ 0 < x) ↔ (1 ≤ c ∧ c ≤ k ∧ 0 < x) := by omega
      simp only [e1, e2]
      omega
theorem cnt_upd {bw : Nat → Int} {c : Nat} (h1 : 1 ≤ c) (h2 : c ≤ 16) (x : Int) : cntW (upd bw c x) + (if 0 < bw c then 1 else 0) = cntW bw + (if 0 < x then 1 else 0) := by
  have := filter_upd bw c x 16
  have e1 : (1 ≤ c ∧ c ≤ 16 ∧ 0 < bw c) ↔ 0 < bw c := by omega
  have e2 : (1 ≤ c ∧ c ≤ 16 ∧ 0 < x) ↔ 0 < x := by omega
  simp only [e1, e2] at this
  exact this
theorem cnt_le (bw : Nat → Int) : cntW bw ≤ 16 := by
  unfold cntW
  refine Nat.le_trans (List.length_filter_le _ _) ?_
  simp
end Go.Proofs.YtmdfjhnibhmdkafDoor
namespace Go.Proofs.YtmdfjhnibhmdkafDoor
open Go.ChangeShapes Go.WideShapes Go.ChangeAt Go.RowKit
theorem pturn_new (w : World) (q : Int) : PTurn (w.alloc (.cells #[.int .i64 q, .int .i64 0, .int .i64 0, .int .i64 0, .int .i64 0, .int .i64 0, .int .i64 0, .int .i64 0, .int .i64 0, .int .i64 0, .int .i64 0, .int .i64 0, .int .i64 0, .int .i64 0, .int .i64 0, .int .i64 0, .int .i64 0, .int .i64 0, .int .i64 0, .bool false] 85)) w.heap.size q 0 false (fun _ => 0) := heap_alloc_new w _
set_option maxRecDepth 100000 in
set_option maxHeartbeats 1000000 in
theorem tnew_good (q : Int) (w : World) (h1 : 1 ≤ q) (h2 : q ≤ 10000) : Calls Tryd.prog 21 #[.int .i64 q] w fun e w' => e = .returned (.tuple #[.pointer (some ⟨w.heap.size, 0, none⟩), .int .i64 0]) ∧ PTurn w' w.heap.size q 0 false (fun _ => 0) ∧ Below w.heap.size w w' := by
  have d0 : decide (q < 1) = false := decide_eq_false (by omega)
  have d1 : decide (10000 < q) = false := decide_eq_false (by omega)
  clear h1 h2
  go_enter Tryd.func21, Tryd.ntmps21
  go_wp2
  go_ret2
  exact ⟨rfl, pturn_new w q, (Below.refl _ w).alloc (Nat.le_refl _) _⟩
set_option maxRecDepth 100000 in
set_option maxHeartbeats 1000000 in
theorem left_any (sb ob n g : Nat) (wf bw ft : Nat → Int) (wt : Int) (w : World) (hS : PSlot w sb wf bw ft wt ob n g) : Calls Tryd.prog 38 #[.pointer (some ⟨sb, 0, none⟩)] w fun e w' => e = .returned (.bool (decide (g < n))) ∧ Below w.heap.size w w' := by
  obtain ⟨-, h1, h2⟩ := hS.tail
  clear hS
  go_enter Tryd.func38, Tryd.ntmps38
  go_upto_region 1 with fail
  go_region
  go_wp2
  go_ret
  exact ⟨by first | rfl | simp, (Below.refl _ w).drew⟩
set_option maxRecDepth 100000 in
set_option maxHeartbeats 1000000 in
theorem earned_any (who byt fit q : Int) (r last : Nat) (opn : Bool) (cr : Nat → Int) (w : World) (hP : PTurn w r q last opn cr) (hw : 0 < byt → 0 ≤ who ∧ who ≤ 16) : Calls Tryd.prog 58 #[.pointer (some ⟨r, 0, none⟩), .agg #[.int .i64 who, .int .i64 byt, .int .i64 fit]] w fun e w' => e = .returned (.bool (decide (0 < byt ∧ fit ≤ cr who.toNat))) ∧ Below w.heap.size w w' := by
  have hbA : Below w.heap.size w (w.alloc (.cells #[.int .i64 who, .int .i64 byt, .int .i64 fit] 47)) := (Below.refl _ w).alloc (Nat.le_refl _) _
  by_cases h0 : 0 < byt
  · obtain ⟨a, rfl⟩ : ∃ a : Nat, who = (a : Int) := ⟨who.toNat, by have := hw h0; omega⟩
    have ha := hw h0
    have hc := PTurn.credit (FunAt.below hP hbA) (a := a) (by omega)
    rw [Int.toNat_natCast]
    have e0 : decide (0 < byt ∧ fit ≤ cr a) = decide (fit ≤ cr a) := by simp [h0]
    rw [e0]
    have a0 : (0 : Int) ≤ (a : Int) := by omega
    have a1 : (a : Int) < 17 := by omega
    have d0 : decide (0 < byt) = true := decide_eq_true h0
    have HB := hid hbA
    generalize cr a = z at *
    clear h0 hw e0 hP ha hbA
    go_enter Tryd.func58, Tryd.ntmps58
    go_upto_region 1 with fail
    go_region
    go_wp2
    go_ret
    exact ⟨rfl, HB.out.drew⟩
  · have e0 : decide (0 < byt ∧ fit ≤ cr who.toNat) = false := decide_eq_false fun h => h0 h.1
    rw [e0]
    have d0 : decide (0 < byt) = false := decide_eq_false h0
    have HB := hid hbA
    clear h0 hw e0 hP hbA
    go_enter Tryd.func58, Tryd.ntmps58
    go_upto_region 1 with fail
    go_region
    go_wp2
    go_ret
    exact ⟨rfl, HB.out.drew⟩
set_option maxRecDepth 100000 in
set_option maxHeartbeats 1000000 in
theorem begin_open (q : Int) (r last : Nat) (cr : Nat → Int) (w : World) (hP : PTurn w r q last true cr) : Calls Tryd.prog 57 #[.pointer (some ⟨r, 0, none⟩)] w fun e w' => e = .returned (.tuple #[]) ∧ w = w' := by
  obtain ⟨-, -, h2⟩ := hP.head
  clear hP
  go_enter Tryd.func57, Tryd.ntmps57
  go_wp2
  go_end0
  exact ⟨rfl, rfl⟩
theorem next_rem {last : Nat} (h : last ≤ 16) : last % 16 + 1 = nextWho last := by unfold nextWho; split <;> omega
set_option maxRecDepth 100000 in
set_option maxHeartbeats 2000000 in
theorem begin_next (q : Int) (r last : Nat) (cr : Nat → Int) (w : World) (hP : PTurn w r q last false cr) (hl : last ≤ 16) (hq : 0 ≤ q ∧ q ≤ 10000) (hc : 0 ≤ cr (nextWho last) ∧ cr (nextWho last) ≤ 1000000) : Calls Tryd.prog 57 #[.pointer (some ⟨r, 0, none⟩)] w fun e w' => e = .returned (.tuple #[]) ∧ PTurn w' r q (nextWho last) false (upd cr (nextWho last) (cr (nextWho last) + q)) ∧ Kept [r] w w' := by
  obtain ⟨-, h1, h2⟩ := hP.head
  have f1 := FunAt.free hP 18
  have hN := (nextWho_le hl).2
  have hP1 := PTurn.setLast hP (nextWho last)
  have hP2 := hP1.setCr hN (cr (nextWho last) + q)
  obtain ⟨g0, g1, -⟩ := hP1.head
  have gc := hP1.credit hN
  have gf := FunAt.free hP1 (1 + nextWho last)
  have HP2 := hid hP2
  have HK : Hid (Kept [r] w ((w.setCell ⟨r, 18, none⟩ (.int .i64 ((nextWho last : Nat) : Int))).setCell ⟨r, 1 + nextWho last, none⟩ (.int .i64 (cr (nextWho last) + q)))) := ((Kept.refl [r] w).setCell (by simp) _).setCell (by simp) _
  have e1 : ((last : Int) % 16 + 1) = ((nextWho last : Nat) : Int) := by
    rw [← next_rem hl]
    omega
  generalize nextWho last = A at *
  generalize cr A = z at *
  have a0 : (0 : Int) ≤ (A : Int) := by omega
  have a1 : (A : Int) < 17 := by omega
  obtain ⟨hq0, hq1⟩ := hq
  obtain ⟨hc0, hc1⟩ := hc
  clear hP hP1 hP2
  go_enter Tryd.func57, Tryd.ntmps57
  go_upto_region 2 with fail
  go_region
  go_wp2
  go_end0
  exact ⟨rfl, HP2.out, HK.out.drew⟩
end Go.Proofs.YtmdfjhnibhmdkafDoor
namespace Go.Proofs.YtmdfjhnibhmdkafDoor
open Go.ChangeShapes Go.WideShapes Go.ChangeAt Go.RowKit
set_option maxRecDepth 100000 in
set_option maxHeartbeats 2000000 in
theorem tgive_any (sb ob n g a : Nat) (wf bw ft : Nat → Int) (wt : Int) (L : List Int) (w : World) (hS : PSlot w sb wf bw ft wt ob n g) (hA : ArrAt .i64 3 w ob L) (hL : L.length = n) (hne : sb ≠ ob) (ha : a ≤ 16) (hg : g < n) (hn : n ≤ 100) (hb : 0 ≤ bw a ∧ bw a ≤ 1000000) (hf : 0 ≤ ft a ∧ ft a ≤ 10000) (hw : 0 ≤ wt ∧ wt ≤ 16) :
    Calls Tryd.prog 59 #[.pointer (some ⟨sb, 0, none⟩), .int .i64 (a : Int)] w fun e w' => e = .returned (.tuple #[]) ∧ PSlot w' sb wf (upd bw a (max (bw a - ft a) 0)) ft (if max (bw a - ft a) 0 = 0 then wt - 1 else wt) ob n (g + 1) ∧ ArrAt .i64 3 w' ob (L.set g (a : Int)) ∧ Kept [sb, ob] w w' := by
  have eM : max (bw a - ft a) 0 = if bw a - ft a < 0 then 0 else bw a - ft a := by split <;> omega
  rw [eM]
  clear eM
  obtain ⟨h0, h1, h2⟩ := hS.tail
  obtain ⟨oc, hoc⟩ : ∃ oc, w.cell? ⟨ob, g, none⟩ = some (.int .i64 oc) := ⟨_, hA.cell (by omega)⟩
  have hof := hA.free g
  have hA1 := hA.set g (a : Int)
  have hS1 : PSlot (w.setCell ⟨ob, g, none⟩ (.int .i64 (a : Int))) sb wf bw ft wt ob n g := FunAt.other hS _ _ hne
  have hk1 := (Kept.refl [sb, ob] w).setCell (p := ⟨ob, g, none⟩) (by simp) (.int .i64 (a : Int))
  obtain ⟨-, -, p2⟩ := hS1.tail
  have p3 := FunAt.free hS1 53
  have hS2 := hS1.setG (g + 1)
  have hA2 := hA1.other ⟨sb, 53, none⟩ (.int .i64 ((g + 1 : Nat) : Int)) (fun e => hne e.symm)
  have hk2 := hk1.setCell (p := ⟨sb, 53, none⟩) (by simp) (.int .i64 ((g + 1 : Nat) : Int))
  rw [show ((g + 1 : Nat) : Int) = (g : Int) + 1 by omega] at hS2 hA2 hk2
  obtain ⟨-, q1, q2⟩ := hS2.user ha
  have q3 := FunAt.free hS2 (a * 3 + 1)
  have hS3 := hS2.setBy ha ((if bw a - ft a < 0 then 0 else bw a - ft a))
  have hA3 := hA2.other ⟨sb, a * 3 + 1, none⟩ (.int .i64 ((if bw a - ft a < 0 then 0 else bw a - ft a))) (fun e => hne e.symm)
  have hk3 := hk2.setCell (p := ⟨sb, a * 3 + 1, none⟩) (by simp) (.int .i64 ((if bw a - ft a < 0 then 0 else bw a - ft a)))
  obtain ⟨-, r1, -⟩ := hS3.user ha
  rw [upd_at] at r1
  obtain ⟨r2, -, -⟩ := hS3.tail
  have r3 := FunAt.free hS3 51
  have hS4 := hS3.setWt (wt - 1)
  have hA4 := hA3.other ⟨sb, 51, none⟩ (.int .i64 (wt - 1)) (fun e => hne e.symm)
  have hk4 := hk3.setCell (p := ⟨sb, 51, none⟩) (by simp) (.int .i64 (wt - 1))
  have HS3 := hid hS3
  have HA3 := hid hA3
  have HK3 := hid hk3
  have HS4 := hid hS4
  have HA4 := hid hA4
  have HK4 := hid hk4
  have a0 : (0 : Int) ≤ (a : Int) := by omega
  have a1 : (a : Int) < 17 := by omega
  obtain ⟨hb0, hb1⟩ := hb
  obtain ⟨hf0, hf1⟩ := hf
  obtain ⟨hw0, hw1⟩ := hw
  have hbn : -20000 ≤ bw a - ft a ∧ bw a - ft a ≤ 1000000 := by omega
  have hg1 : g < 100 := by omega
  by_cases hz : (if bw a - ft a < 0 then 0 else bw a - ft a) = 0
  · rw [if_pos hz]
    have xz : ((if bw a - ft a < 0 then 0 else bw a - ft a) == 0) = true := by rw [hz]; rfl
    generalize upd bw a ((if bw a - ft a < 0 then 0 else bw a - ft a)) = bw' at *
    generalize bw a = z at *
    generalize ft a = F at *
    clear hS hA hA1 hS1 hk1 hS2 hA2 hk2 hS3 hA3 hk3 hS4 hA4 hk4 hz HS3 HA3 HK3 hL hn
    go_enter Tryd.func59, Tryd.ntmps59
    go_upto_region 1 with fail
    go_region
    go_upto_region 3 with fail
    go_big_region
    generalize (if z - F < 0 then 0 else z - F) = y at *
    go_wp2
    go_end0
    exact ⟨rfl, HS4.out, HA4.out, HK4.out.drew.drew⟩
  · rw [if_neg hz]
    have xz : ((if bw a - ft a < 0 then 0 else bw a - ft a) == 0) = false := beq_false_of_ne hz
    generalize upd bw a ((if bw a - ft a < 0 then 0 else bw a - ft a)) = bw' at *
    generalize bw a = z at *
    generalize ft a = F at *
    clear hS hA hA1 hS1 hk1 hS2 hA2 hk2 hS3 hA3 hk3 hS4 hA4 hk4 hz HS4 HA4 HK4 hL hn
    go_enter Tryd.func59, Tryd.ntmps59
    go_upto_region 1 with fail
    go_region
    go_upto_region 3 with fail
    go_big_region
    generalize (if z - F < 0 then 0 else z - F) = y at *
    go_wp2
    go_end0
    exact ⟨rfl, HS3.out, HA3.out, HK3.out.drew.drew⟩
end Go.Proofs.YtmdfjhnibhmdkafDoor
